/- package path: Name, isPath, lowest, Of and Bit return what the plain functions say; they write nothing that was there. -/
import Derived.Test.YtjcockcilkiggaaJ04
import Derived.Test.YtjcockcilkiggaaJ03
import Derived.Lib.BufferWrite
import Derived.Test.YtjcockcilkiggaaJ06
namespace Go.Proofs.Ytjcockcilkiggaa
open Go.RowKit

theorem nameByte_val (c : UInt8) : ((decide ((97 : Int) ≤ (c.toNat : Int)) && decide ((c.toNat : Int) ≤ 122)) || (decide ((48 : Int) ≤ (c.toNat : Int)) && decide ((c.toNat : Int) ≤ 57))) = Bin.nameByte c := by
  unfold Bin.nameByte
  congr 2 <;> exact decide_eq_decide.2 (by omega)
theorem bitByte_val (c : UInt8) : (((c.toNat : Int) == 48) || ((c.toNat : Int) == 49)) = Bin.bitByte c := by
  unfold Bin.bitByte
  congr 1 <;> rw [Bool.eq_iff_iff, beq_iff_eq, beq_iff_eq] <;> omega

set_option maxHeartbeats 400000 in
theorem only_name1 (c : UInt8) (w : World) (b : Bool) (hb : Bin.nameByte c = b) :
    Calls Try.prog 53 #[.int .u8 (c.toNat : Int)] w fun e w' => e = .returned (.bool b) ∧ w = w' := by
  have HV := Lib.hid ((nameByte_val c).trans hb)
  clear hb
  generalize (c.toNat : Int) = x at *
  have h1 : decide ((97 : Int) ≤ x) = true ∨ decide ((97 : Int) ≤ x) = false := by cases decide ((97 : Int) ≤ x) <;> simp
  have h2 : decide (x ≤ 122) = true ∨ decide (x ≤ 122) = false := by cases decide (x ≤ 122) <;> simp
  have h3 : decide ((48 : Int) ≤ x) = true ∨ decide ((48 : Int) ≤ x) = false := by cases decide ((48 : Int) ≤ x) <;> simp
  have h4 : decide (x ≤ 57) = true ∨ decide (x ≤ 57) = false := by cases decide (x ≤ 57) <;> simp
  rcases h1 with h1 | h1 <;> rcases h2 with h2 | h2 <;> rcases h3 with h3 | h3 <;> rcases h4 with h4 | h4 <;>
  · have H := HV.out
    rw [h1, h2, h3, h4] at H
    clear HV
    have HH := Lib.hid H
    clear H
    go_enter Try.func53, Try.ntmps53
    go_wp2
    go_ret
    exact ⟨by rw [← HH.out]; rfl, rfl⟩

set_option maxHeartbeats 400000 in
theorem only_name (l : Bytes) (w : World) (hl : l.length ≤ maxLen) (b : Bool) (hb : l.all Bin.nameByte = b) :
    Calls Try.prog 52 #[.string (S l), .func (.func 53) #[] #[]] w fun e w' => e = .returned (.bool b) ∧ w = w' := by
  unfold maxLen at hl
  have HB := Lib.hid hb
  clear hb
  go_enter Try.func52, Try.ntmps52
  go_wp2
  go_loop [5] (fun i => ∃ k : Nat, k ≤ l.length ∧ i = .int .i64 k ∧ Hid ((l.take k).all Bin.nameByte = true)) (fun i => l.length - (intOf i).toNat)
  case atStart => exact ⟨0, Nat.zero_le _, rfl, rfl⟩
  case round =>
    obtain ⟨k, hk, rfl, hpre⟩ := hrel
    by_cases hlt : k < l.length
    · have hi0 : (0 : Int) ≤ (k : Int) := by omega
      have hi1 : (k : Int) < (l.length : Int) := by omega
      by_cases hv : Bin.nameByte l[k] = true
      · have HS : Hid ((l.take (k + 1)).all Bin.nameByte = true) := by
          show (l.take (k + 1)).all Bin.nameByte = true
          rw [List.take_succ_eq_append_getElem hlt, List.all_append, hpre.out]
          simp [hv]
        have ht := fun w => Lib.hid (only_name1 l[k] w true hv)
        clear hv
        go_wp2_with fail
        refine (ht _).out.mono ?_
        rintro e w1 ⟨rfl, rfl⟩
        go_wp2
        go_round
        case rel => exact ⟨k + 1, by omega, by go_num, HS⟩
        case measure => simp [intOf]; omega
      · rw [Bool.not_eq_true] at hv
        have HF : Hid (b = false) := by
          show b = false
          rw [← HB.out, List.all_eq_false]
          exact ⟨l[k], List.getElem_mem hlt, by simp [hv]⟩
        have ht := fun w => Lib.hid (only_name1 l[k] w false hv)
        clear hv
        go_wp2_with fail
        refine (ht _).out.mono ?_
        rintro e w1 ⟨rfl, rfl⟩
        go_wp2
        go_ret
        exact ⟨by rw [HF.out]; rfl, rfl⟩
    · have HF : Hid (b = true) := by
        show b = true
        rw [← HB.out]
        have := hpre.out
        rwa [List.take_of_length_le (by omega)] at this
      go_wp2
      go_ret
      exact ⟨by rw [HF.out]; rfl, rfl⟩

end Go.Proofs.Ytjcockcilkiggaa
/- package path: Name and isPath return whether a string is a name or a path; lowest returns the sixteen lowest bits; Of returns the path of a name. They write nothing that was there. -/
namespace Go.Proofs.Ytjcockcilkiggaa
open Go.RowKit

theorem le_int (a b : Nat) : decide ((a : Int) ≤ (b : Int)) = decide (a ≤ b) := decide_eq_decide.2 (by omega)

set_option maxHeartbeats 400000 in
theorem pathName (l : Bytes) (w : World) (hl : l.length ≤ maxLen) (b : Bool) (hb : Bin.name l = b) :
    Calls Try.prog 33 #[.string (S l)] w fun e w' => e = .returned (.bool b) ∧ w = w' := by
  have ht := fun w => Lib.hid (only_name l w hl _ rfl)
  clear hl
  by_cases h1 : 1 ≤ l.length
  · by_cases h2 : l.length ≤ 12
    · have HB : Hid (b = l.all Bin.nameByte) := by
        show b = _
        rw [← hb, Bin.name, decide_eq_true h1, decide_eq_true h2]
        rfl
      clear hb
      generalize l.all Bin.nameByte = c at *
      have c1 : decide ((1 : Int) ≤ (l.length : Int)) = true := decide_eq_true (by omega)
      have c2 : decide ((l.length : Int) ≤ 12) = true := decide_eq_true (by omega)
      clear h1 h2
      go_enter Try.func33, Try.ntmps33
      go_wp2_with fail
      refine (ht _).out.mono ?_
      rintro e w1 ⟨rfl, rfl⟩
      go_wp2
      go_ret
      exact ⟨by rw [HB.out]; rfl, rfl⟩
    · obtain rfl : b = false := by rw [← hb, Bin.name, decide_eq_false h2]; simp
      have c1 : decide ((1 : Int) ≤ (l.length : Int)) = true := decide_eq_true (by omega)
      have c2 : decide ((l.length : Int) ≤ 12) = false := decide_eq_false (by omega)
      clear h1 h2 hb ht
      go_enter Try.func33, Try.ntmps33
      go_wp2
      go_ret
      exact ⟨rfl, rfl⟩
  · obtain rfl : b = false := by rw [← hb, Bin.name, decide_eq_false h1]; simp
    have c1 : decide ((1 : Int) ≤ (l.length : Int)) = false := decide_eq_false (by omega)
    clear h1 hb ht
    go_enter Try.func33, Try.ntmps33
    go_wp2
    go_ret
    exact ⟨rfl, rfl⟩


/-- The array while its last places are filled. -/
def lowCells (n k : Nat) : List Value := List.replicate k (.int .u8 0) ++ bcells (Bin.low (16 - k) n)

theorem lowCells_length (n k : Nat) (hk : k ≤ 16) : (lowCells n k).length = 16 := by
  simp [lowCells, bcells_length, Bin.low_length]
  omega
theorem lowCells_at (n j : Nat) : (lowCells n (j + 1))[j]? = some (.int .u8 0) := by
  unfold lowCells
  rw [List.getElem?_append_left (by simp), List.getElem?_replicate, if_pos (by omega)]
theorem lowCells_set (n j : Nat) (hj : j < 16) : (lowCells n (j + 1)).set j (.int .u8 ((Bin.digit (n / 2 ^ (16 - (j + 1)))).toNat : Int)) = lowCells n j := by
  unfold lowCells
  rw [show 16 - j = (16 - (j + 1)) + 1 by omega, Bin.low_front, List.replicate_succ', List.append_assoc, List.set_append, if_neg (by simp)]
  simp [bcells]
theorem lowCells_all (n : Nat) : lowCells n 0 = bcells (Bin.low 16 n) := by
  unfold lowCells
  rw [List.replicate_zero, List.nil_append, Nat.sub_zero]
theorem lowCells_store (w : World) (n j : Nat) (t : TypeId) (hj : j < 16) :
    (w.alloc (.cells (lowCells n (j + 1)).toArray t)).setCell ⟨w.heap.size, j, none⟩ (.int .u8 ((Bin.digit (n / 2 ^ (16 - (j + 1)))).toNat : Int)) = w.alloc (.cells (lowCells n j).toArray t) := by
  rw [World.setCell_alloc_new, List.setIfInBounds_toArray, lowCells_set n j hj]

theorem digit_val (m : Nat) (hm : m < 18446744073709551616) : (48 + bits .and .u64 (m : Int) 1) % 256 = ((Bin.digit m).toNat : Int) := by
  have h := u64_and_nat m 1 hm (by omega)
  have e : m &&& 1 = m % 2 := Nat.and_two_pow_sub_one_eq_mod m 1
  rw [e] at h
  rw [show (1 : Int) = ((1 : Nat) : Int) from rfl, h, Bin.digit_toNat]
  omega
/-- The array's bytes as a string. -/
theorem conv_low (w : World) (n : Nat) (t : TypeId) :
    (convert 128 9 (.slice (some ⟨w.heap.size, 0, none⟩) 16 16)).run Try.prog (w.alloc (.cells (bcells (Bin.low 16 n)).toArray t)) = .ok (.string (S (Bin.low 16 n))) (w.alloc (.cells (bcells (Bin.low 16 n)).toArray t)) := by
  have hl := Bin.low_length 16 n
  generalize Bin.low 16 n = l at *
  rw [run_convert_bytes_arg (P := Try.prog) _ 128 5 Try.underlying128 Try.underlying5 w.heap.size 0 16 16 (l.map fun b : UInt8 => (b.toNat : Int)) (by simp [hl]) (fun i hi => by
    rw [Nat.zero_add, World.cell?_alloc_new]
    simp [bcells, List.getD, show i < l.length by omega]) 9 Try.underlying9]
  congr 2
  simp [strOfNums, S, Function.comp_def]

set_option maxRecDepth 100000 in
set_option maxHeartbeats 400000 in
theorem pathLowest (n : Nat) (w : World) (hn : n < 18446744073709551616) :
    Calls Try.prog 74 #[.int .u64 (n : Int)] w fun e w' => e = .returned (.string (S (Bin.low 16 n))) ∧ Below w.heap.size w w' := by
  go_enter Try.func74, Try.ntmps74
  go_wp2
  go_loopw [0, 4] (fun v i wr => ∃ k : Nat, k ≤ 16 ∧ i = .int .i64 ((k : Int) - 1) ∧ v = .int .u64 ((n / 2 ^ (16 - k) : Nat) : Int) ∧ wr = w.alloc (.cells (lowCells n k).toArray 126)) (fun _ i _ => (intOf i + 1).toNat)
  case atStart => exact ⟨16, Nat.le_refl _, rfl, by simp, rfl⟩
  case round =>
    obtain ⟨k, hk, rfl, rfl, hw⟩ := hrel
    by_cases hlt : 0 < k
    · obtain ⟨j, rfl⟩ : ∃ j, k = j + 1 := ⟨k - 1, by omega⟩
      rw [show ((j + 1 : Nat) : Int) - 1 = (j : Int) by omega]
      have hi0 : (0 : Int) ≤ (j : Int) := by omega
      have hi1 : (j : Int) < 16 := by omega
      have hc : wr.cell? ⟨w.heap.size, j, none⟩ = some (.int .u8 0) := by
        rw [hw, World.cell?_alloc_new]
        simpa using lowCells_at n j
      have hf : wr.frozen? ⟨w.heap.size, j, none⟩ = false := by rw [hw, World.frozen?_alloc_new]
      have hm : n / 2 ^ (16 - (j + 1)) < 18446744073709551616 := Nat.lt_of_le_of_lt (Nat.div_le_self _ _) hn
      have HS : Hid (wr.setCell ⟨w.heap.size, j, none⟩ (.int .u8 ((48 + bits .and .u64 ((n / 2 ^ (16 - (j + 1)) : Nat) : Int) 1) % 256)) = w.alloc (.cells (lowCells n j).toArray 126)) := by
        show _ = _
        rw [digit_val _ hm, hw, lowCells_store w n j _ (by omega)]
      have HN : Hid (n / 2 ^ (16 - (j + 1)) / 2 = n / 2 ^ (16 - j)) := by
        show _ = _
        rw [Nat.div_div_eq_div_mul, ← Nat.pow_succ, show (16 - (j + 1)).succ = 16 - j by omega]
      clear hw hn
      generalize n / 2 ^ (16 - (j + 1)) = m at *
      go_wp2
      go_roundw
      case rel => exact ⟨j, by omega, by go_num, by rw [← HN.out]; go_num, HS.out⟩
      case measure => simp [intOf]
    · obtain rfl : k = 0 := by omega
      have hcv := conv_low w n 126
      rw [lowCells_all] at hw
      generalize hl : Bin.low 16 n = l at hcv hw
      have HL := Lib.hid hl
      clear hl
      subst hw
      go_wp2
      go_ret
      exact ⟨by rw [HL.out]; rfl, (Below.refl _ _).alloc (Nat.le_refl _) _⟩

set_option maxHeartbeats 400000 in
theorem pathOf_yes (l : Bytes) (w : World) (h : Bin.name l = true) :
    Calls Try.prog 66 #[.string (S l)] w fun e w' => e = .returned (.tuple #[.string (S (Bin.of l)), .int .i64 0]) ∧ Below w.heap.size w w' := by
  have hl : l.length ≤ maxLen := by have := Bin.name_len h; unfold maxLen; omega
  have h1 := fun w => Lib.hid (pathName l w hl true h)
  have h2 := fun w => Lib.hid (markOf l w hl)
  have h3 := fun w => Lib.hid (pathLowest (Hash.of l) w (Nat.lt_trans (Hash.of_lt l) (by decide)))
  have HO : Hid (Bin.of l = Bin.low 16 (Hash.of l)) := rfl
  generalize Bin.of l = p at *
  generalize Bin.low 16 (Hash.of l) = q at *
  generalize Hash.of l = n at *
  clear h hl
  go_enter Try.func66, Try.ntmps66
  go_wp2_with fail
  refine (h1 _).out.mono ?_
  rintro e w1 ⟨rfl, rfl⟩
  go_wp2_with fail
  refine (h2 _).out.mono ?_
  rintro e w1 ⟨rfl, m, rfl⟩
  go_wp2_with fail
  refine (h3 _).out.mono ?_
  rintro e w1 ⟨rfl, hb⟩
  go_wp2
  go_ret2
  exact ⟨by rw [HO.out]; rfl, below_chain (below_of_drewN _ _ _) hb⟩
set_option maxHeartbeats 400000 in
theorem pathOf_no (l : Bytes) (w : World) (hl : l.length ≤ maxLen) (h : Bin.name l = false) :
    Calls Try.prog 66 #[.string (S l)] w fun e w' => e = .returned (.tuple #[.string (S []), .int .i64 3]) ∧ w = w' := by
  have h1 := fun w => Lib.hid (pathName l w hl false h)
  clear h hl
  go_enter Try.func66, Try.ntmps66
  go_wp2_with fail
  refine (h1 _).out.mono ?_
  rintro e w1 ⟨rfl, rfl⟩
  go_wp2
  go_ret2
  exact ⟨rfl, rfl⟩
end Go.Proofs.Ytjcockcilkiggaa
/- Package queue: within, checkAsk, Check return what the chapter says. They write nothing that was there. -/
namespace Go.Proofs.Ytjcockcilkiggaa
set_option maxRecDepth 100000
open Go.RowKit

set_option maxHeartbeats 400000 in
theorem queueWithin (n a b : Int) (w : World) (r : Bool) (hr : (decide (a ≤ n) && decide (n ≤ b)) = r) :
    Calls Try.prog 41 #[.int .i64 n, .int .i64 a, .int .i64 b] w fun e w' => e = .returned (.bool r) ∧ w = w' := by
  subst hr
  cases c1 : decide (a ≤ n) with
  | false =>
    go_enter Try.func41, Try.ntmps41
    go_wp2
    go_ret
    exact ⟨rfl, rfl⟩
  | true =>
    go_enter Try.func41, Try.ntmps41
    go_wp2
    go_ret
    exact ⟨rfl, rfl⟩

set_option maxHeartbeats 400000 in
theorem queueAsk (n v : Bytes) (x t : Nat) (w : World) (hn : n.length ≤ maxLen) (hv : v.length ≤ maxLen) (r : Int) (hr : askFault n v = r) :
    Calls Try.prog 42 #[.agg #[.string (S n), .string (S v), .int .u64 (x : Int), .int .u64 (t : Int)]] w fun e w' => e = .returned (.int .i64 r) ∧ Below w.heap.size w w' := by
  have hG := fun w => Lib.hid (pathName n w hn _ rfl)
  have hb0 := (Below.refl w.heap.size w).alloc (Nat.le_refl _) (.cells #[.string (S n), .string (S v), .int .u64 (x : Int), .int .u64 (t : Int)] 35)
  unfold maxLen at hv
  unfold askFault at hr
  cases hnm : Bin.name n with
  | false =>
    rw [hnm] at hG hr
    rw [if_neg (by simp)] at hr
    subst hr
    clear hnm
    go_enter Try.func42, Try.ntmps42
    go_wp2_with fail
    refine (hG _).out.mono ?_
    rintro e w1 ⟨rfl, rfl⟩
    go_wp2
    go_ret
    exact ⟨rfl, hb0⟩
  | true =>
    rw [hnm] at hG hr
    rw [if_pos rfl] at hr
    by_cases h : 20 < v.length
    · rw [if_pos h] at hr
      have c1 : decide ((20 : Int) < (v.length : Int)) = true := decide_eq_true (by omega)
      subst hr
      clear hnm h
      go_enter Try.func42, Try.ntmps42
      go_wp2_with fail
      refine (hG _).out.mono ?_
      rintro e w1 ⟨rfl, rfl⟩
      go_wp2
      go_ret
      exact ⟨rfl, hb0⟩
    · rw [if_neg h] at hr
      have c1 : decide ((20 : Int) < (v.length : Int)) = false := decide_eq_false (by omega)
      subst hr
      clear hnm h
      go_enter Try.func42, Try.ntmps42
      go_wp2_with fail
      refine (hG _).out.mono ?_
      rintro e w1 ⟨rfl, rfl⟩
      go_wp2
      go_ret
      exact ⟨rfl, hb0⟩

set_option maxHeartbeats 2000000 in
theorem queueCheck (most : Int) (A : Option Addr) (c : Nat) (l : List Ak) (w : World) (hm : l.length ≤ maxLen) (hl : ∀ x ∈ l, AkFits x) (hA : Row w A (qcells l)) (r : Int) (hr : qfault most l = r) :
    Calls Try.prog 20 #[.agg #[.int .i64 most, .slice A l.length c]] w fun e w' => e = .returned (.int .i64 r) ∧ Below w.heap.size w w' := by
  unfold maxLen at hm
  unfold qfault at hr
  have hb0 := (Below.refl w.heap.size w).alloc (Nat.le_refl _) (.cells #[.int .i64 most, .slice A l.length c] 24)
  obtain ⟨f0, -⟩ := (Bx.new w _ rfl _ [.int .i64 most, .slice A l.length c] 24 rfl)
  have x0 := f0 0 (by simp)
  have x1 := f0 1 (by simp)
  simp only [List.getElem_cons_zero, List.getElem_cons_succ] at x0 x1
  have hW := fun w => Lib.hid (queueWithin most 1 30 w _ rfl)
  by_cases h1 : most < 1 ∨ 30 < most
  · rw [if_pos h1] at hr
    subst hr
    have c1 : (decide (1 ≤ most) && decide (most ≤ 30)) = false := by
      rcases h1 with h | h
      · rw [decide_eq_false (by omega : ¬ (1 : Int) ≤ most)]; rfl
      · rw [decide_eq_false (by omega : ¬ most ≤ 30), Bool.and_false]
    rw [c1] at hW
    clear hl hA f0 c1 h1
    go_enter Try.func20, Try.ntmps20
    go_wp2_with fail
    refine (hW _).out.mono ?_
    rintro e w1 ⟨rfl, rfl⟩
    go_wp2
    go_ret
    exact ⟨rfl, hb0⟩
  rw [if_neg h1] at hr
  have c1 : (decide (1 ≤ most) && decide (most ≤ 30)) = true := by
    rw [decide_eq_true (by omega : (1 : Int) ≤ most), decide_eq_true (by omega : most ≤ 30)]; rfl
  rw [c1] at hW
  by_cases h3 : most < (l.length : Int)
  · rw [if_pos h3] at hr
    subst hr
    clear hl hA f0 h1 c1
    go_enter Try.func20, Try.ntmps20
    go_wp2_with fail
    refine (hW _).out.mono ?_
    rintro e w1 ⟨rfl, rfl⟩
    go_wp2
    go_ret
    exact ⟨rfl, hb0⟩
  have c3 : decide (most < (l.length : Int)) = false := decide_eq_false h3
  rw [if_neg h3] at hr
  have HR : Hid (r = asksFault (l.drop 0)) := hr.symm
  have HL := Lib.hid hl
  have hl30 : l.length ≤ 30 := by omega
  have hA0 := hA.alloc (.cells #[.int .i64 most, .slice A l.length c] 24)
  clear hr hl f0 h1 h3 hA c1
  go_enter Try.func20, Try.ntmps20
  go_wp2_with fail
  refine (hW _).out.mono ?_
  rintro e w1 ⟨rfl, rfl⟩
  go_wp2
  generalize w.alloc (.cells #[.int .i64 most, .slice A l.length c] 24) = w0 at *
  go_loopw [19] (fun i wr => ∃ k : Nat, k ≤ l.length ∧ i = .int .i64 k ∧ Hid (r = asksFault (l.drop k)) ∧ Below w0.heap.size w0 wr) (fun i _ => l.length - (intOf i).toNat)
  case atStart => exact ⟨0, Nat.zero_le _, rfl, HR, Below.refl _ _⟩
  case round =>
    obtain ⟨k, hk, rfl, HS, hbl⟩ := hrel
    have hsz := hbl.size
    clear c3 x0 x1 hW
    by_cases hlt : k < l.length
    · obtain ⟨g, off, rfl, j0, j1, j2, j3⟩ := (hA0.below hbl).ask k hlt
      have hx := HL.out _ (List.getElem_mem hlt)
      have hF := fun w => Lib.hid (queueAsk l[k].1 l[k].2.1 l[k].2.2.1 l[k].2.2.2 w hx.1 hx.2 _ rfl)
      have HS' : Hid (r = if askFault l[k].1 l[k].2.1 = 0 then asksFault (l.drop (k + 1)) else askFault l[k].1 l[k].2.1) := by
        show r = _
        rw [HS.out, List.drop_eq_getElem_cons hlt]
        rfl
      generalize askFault l[k].1 l[k].2.1 = q at *
      generalize l[k].1 = a1 at *
      generalize l[k].2.1 = a2 at *
      generalize l[k].2.2.1 = a3 at *
      generalize l[k].2.2.2 = a4 at *
      have i0 : (0 : Int) ≤ (k : Int) := by omega
      have i1 : (k : Int) < (l.length : Int) := by omega
      have hbl2 := hbl.alloc hsz (.cells #[.string (S a1), .string (S a2), .int .u64 (a3 : Int), .int .u64 (a4 : Int)] 35)
      clear HS hx
      by_cases hq : q = 0
      · have HS2 : Hid (r = asksFault (l.drop (k + 1))) := by show r = _; rw [HS'.out, if_pos hq]
        subst hq
        clear HS'
        go_wp2_with fail
        refine (hF _).out.mono ?_
        rintro e w1 ⟨rfl, hb2⟩
        have hbl3 := below_chain hbl2 hb2
        clear hF hb2 hbl2
        go_wp2
        go_roundw
        case rel => exact ⟨k + 1, by omega, by go_num, HS2, hbl3⟩
        case measure => simp [intOf]; omega
      · have HS2 : Hid (r = q) := by show r = _; rw [HS'.out, if_neg hq]
        have c4 : (q != 0) = true := bne_iff_ne.2 hq
        clear HS' hq
        go_wp2_with fail
        refine (hF _).out.mono ?_
        rintro e w1 ⟨rfl, hb2⟩
        have hbl3 := below_chain hbl2 hb2
        clear hF hb2 hbl2
        go_wp2
        go_ret
        exact ⟨by rw [HS2.out]; rfl, below_chain hb0 hbl3⟩
    · have HS2 : Hid (r = 0) := by show r = 0; rw [HS.out, List.drop_eq_nil_of_le (by omega)]; rfl
      clear hA0
      go_wp2
      go_ret
      exact ⟨by rw [HS2.out]; rfl, below_chain hb0 hbl⟩
end Go.Proofs.Ytjcockcilkiggaa
