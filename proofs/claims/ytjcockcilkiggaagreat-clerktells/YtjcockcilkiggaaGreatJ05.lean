/- The reference: GoodName, Path, GoodPrefix and Ahead return what the plain functions say; they write nothing. -/
import Derived.Test.YtjcockcilkiggaaGreatJ04
import Derived.Test.YtjcockcilkiggaaGreatJ03
import Derived.Handy
import Derived.Sort.Walk0
namespace Go.Proofs.YtjcockcilkiggaaGreat
open Go.RowKit

theorem nameByte_ref (c : UInt8) : ((decide ((97 : Int) ≤ (c.toNat : Int)) && decide ((c.toNat : Int) ≤ 122)) || (decide ((48 : Int) ≤ (c.toNat : Int)) && decide ((c.toNat : Int) ≤ 57))) = Bin.nameByte c := by
  unfold Bin.nameByte
  congr 2 <;> exact decide_eq_decide.2 (by omega)

set_option maxRecDepth 100000 in
set_option maxHeartbeats 800000 in
theorem goodName (l : Bytes) (w : World) (hl : l.length ≤ maxLen) (b : Bool) (hb : Bin.name l = b) :
    Calls Tryz.prog 57 #[.string (S l)] w fun e w' => e = .returned (.bool b) ∧ w = w' := by
  unfold maxLen at hl
  have HB := Lib.hid hb
  clear hb
  go_enter Tryz.func57, Tryz.ntmps57
  go_wp2
  go_loop [6] (fun i => ∃ k : Nat, k ≤ l.length ∧ i = .int .i64 k ∧ Hid ((l.take k).all Bin.nameByte = true)) (fun i => l.length - (intOf i).toNat)
  case atStart => exact ⟨0, Nat.zero_le _, rfl, rfl⟩
  case round =>
    obtain ⟨k, hk, rfl, hpre⟩ := hrel
    by_cases hlt : k < l.length
    · have hi0 : (0 : Int) ≤ (k : Int) := by omega
      have hi1 : (k : Int) < (l.length : Int) := by omega
      have HV : Hid (((decide ((97 : Int) ≤ (l[k].toNat : Int)) && decide ((l[k].toNat : Int) ≤ 122)) || (decide ((48 : Int) ≤ (l[k].toNat : Int)) && decide ((l[k].toNat : Int) ≤ 57))) = Bin.nameByte l[k]) := nameByte_ref l[k]
      have HS : Hid (Bin.nameByte l[k] = true → (l.take (k + 1)).all Bin.nameByte = true) := by
        show Bin.nameByte l[k] = true → (l.take (k + 1)).all Bin.nameByte = true
        intro hv
        rw [List.take_succ_eq_append_getElem hlt, List.all_append, hpre.out]
        simp [hv]
      have HF : Hid (Bin.nameByte l[k] = false → b = false) := by
        show Bin.nameByte l[k] = false → b = false
        intro hv
        have : l.all Bin.nameByte = false := by
          rw [List.all_eq_false]
          exact ⟨l[k], List.getElem_mem hlt, by simp [hv]⟩
        rw [← HB.out, Bin.name, this, Bool.and_false]
      generalize Bin.nameByte l[k] = v at *
      clear HB
      have h1 : decide ((97 : Int) ≤ (l[k].toNat : Int)) = true ∨ decide ((97 : Int) ≤ (l[k].toNat : Int)) = false := by cases decide ((97 : Int) ≤ (l[k].toNat : Int)) <;> simp
      have h2 : decide ((l[k].toNat : Int) ≤ 122) = true ∨ decide ((l[k].toNat : Int) ≤ 122) = false := by cases decide ((l[k].toNat : Int) ≤ 122) <;> simp
      have h3 : decide ((48 : Int) ≤ (l[k].toNat : Int)) = true ∨ decide ((48 : Int) ≤ (l[k].toNat : Int)) = false := by cases decide ((48 : Int) ≤ (l[k].toNat : Int)) <;> simp
      have h4 : decide ((l[k].toNat : Int) ≤ 57) = true ∨ decide ((l[k].toNat : Int) ≤ 57) = false := by cases decide ((l[k].toNat : Int) ≤ 57) <;> simp
      rcases h1 with h1 | h1 <;> rcases h2 with h2 | h2 <;> rcases h3 with h3 | h3 <;> rcases h4 with h4 | h4 <;>
      · have H := HV.out
        rw [h1, h2, h3, h4] at H
        first
        | (obtain rfl : v = true := H.symm
           have HS' := Lib.hid (HS.out rfl)
           clear H HV HS HF
           go_wp2
           go_round
           case rel => exact ⟨k + 1, by omega, by go_num, HS'⟩
           case measure => simp [intOf]; omega)
        | (obtain rfl : v = false := H.symm
           have HF' := Lib.hid (HF.out rfl)
           clear H HV HS HF
           go_wp2
           go_ret
           exact ⟨by rw [HF'.out]; rfl, rfl⟩)
    · have hall : l.all Bin.nameByte = true := by
        have := hpre.out
        rwa [List.take_of_length_le (by omega)] at this
      have HV : Hid ((decide (0 < l.length) && decide ((l.length : Int) < 13)) = b) := by
        show _ = b
        rw [← HB.out, Bin.name, hall, Bool.and_true]
        congr 1
        exact decide_eq_decide.2 (by omega)
      clear hpre hall HB
      have h2 : decide ((l.length : Int) < 13) = true ∨ decide ((l.length : Int) < 13) = false := by cases decide ((l.length : Int) < 13) <;> simp
      obtain rfl : k = l.length := by omega
      by_cases h1 : 0 < l.length <;> rcases h2 with h2 | h2 <;>
      · have H := HV.out
        simp only [h1, h2] at H
        have HH := Lib.hid H
        clear H HV hlt hk
        go_wp2
        go_ret
        exact ⟨by rw [← HH.out]; rfl, rfl⟩


theorem low_step0 (k n : Nat) (h : n / 2 ^ k % 2 = 0) : (⟨#[48, 49]⟩ : ByteArray).extract 0 1 ++ S (Bin.low k n) = S (Bin.low (k + 1) n) := by
  rw [show (⟨#[48, 49]⟩ : ByteArray) = S [48, 49] from rfl, S_extract, show (List.drop 0 [(48 : UInt8), 49]).take (1 - 0) = [48] from rfl, S_append, Bin.low_front, Bin.digit, h]
  rfl
theorem low_step1 (k n : Nat) (h : n / 2 ^ k % 2 = 1) : (⟨#[48, 49]⟩ : ByteArray).extract 1 2 ++ S (Bin.low k n) = S (Bin.low (k + 1) n) := by
  rw [show (⟨#[48, 49]⟩ : ByteArray) = S [48, 49] from rfl, S_extract, show (List.drop 1 [(48 : UInt8), 49]).take (2 - 1) = [49] from rfl, S_append, Bin.low_front, Bin.digit, h]
  rfl

set_option maxRecDepth 100000 in
set_option maxHeartbeats 800000 in
theorem refPath (l : Bytes) (w : World) (hl : l.length ≤ maxLen) :
    Calls Tryz.prog 73 #[.string (S l)] w fun e w' => e = .returned (.string (S (Bin.of l))) ∧ w = w' := by
  have hM := fun w => Lib.hid (refMark l w hl)
  have hn : Hash.of l < 18446744073709551616 := Nat.lt_trans (Hash.of_lt l) (by decide)
  have HO : Hid (Bin.of l = Bin.low 16 (Hash.of l)) := rfl
  generalize Bin.of l = r at *
  generalize Hash.of l = n at *
  clear hl
  go_enter Tryz.func73, Tryz.ntmps73
  go_wp2_with fail
  refine (hM _).out.mono ?_
  rintro e w1 ⟨rfl, rfl⟩
  clear hM
  go_wp2
  go_loop [3, 4, 7] (fun v o i => ∃ k : Nat, k ≤ 16 ∧ i = .int .i64 k ∧ v = .int .u64 ((n / 2 ^ k : Nat) : Int) ∧ o = .string (S (Bin.low k n))) (fun _ _ i => 16 - (intOf i).toNat)
  case atStart => exact ⟨0, Nat.zero_le _, rfl, by simp, rfl⟩
  case round =>
    obtain ⟨k, hk, rfl, rfl, rfl⟩ := hrel
    by_cases hlt : k < 16
    · have hi1 : (k : Int) < 16 := by omega
      have hm : n / 2 ^ k < 18446744073709551616 := Nat.lt_of_le_of_lt (Nat.div_le_self _ _) hn
      have HN : Hid (n / 2 ^ k / 2 = n / 2 ^ (k + 1)) := by
        show _ = _
        rw [Nat.div_div_eq_div_mul, ← Nat.pow_succ]
      have hpl := Bin.low_length k n
      have H0 : Hid (n / 2 ^ k % 2 = 0 → (⟨#[48, 49]⟩ : ByteArray).extract 0 1 ++ S (Bin.low k n) = S (Bin.low (k + 1) n)) := low_step0 k n
      have H1 : Hid (n / 2 ^ k % 2 = 1 → (⟨#[48, 49]⟩ : ByteArray).extract 1 2 ++ S (Bin.low k n) = S (Bin.low (k + 1) n)) := low_step1 k n
      clear HO
      generalize Bin.low k n = p at *
      generalize n / 2 ^ k = m at *
      rcases (by omega : m % 2 = 0 ∨ m % 2 = 1) with h | h
      · have HE := Lib.hid (H0.out h)
        have hz : (m : Int) % 2 = 0 := by omega
        clear H0 H1 h
        go_wp2
        go_round
        case rel => exact ⟨k + 1, by omega, by go_num, by rw [← HN.out]; go_num, by rw [← HE.out]⟩
        case measure => simp [intOf]; omega
      · have HE := Lib.hid (H1.out h)
        have hz : (m : Int) % 2 = 1 := by omega
        clear H0 H1 h
        go_wp2
        go_round
        case rel => exact ⟨k + 1, by omega, by go_num, by rw [← HN.out]; go_num, by rw [← HE.out]⟩
        case measure => simp [intOf]; omega
    · obtain rfl : k = 16 := by omega
      have HR := Lib.hid HO.out
      clear HO
      generalize Bin.low 16 n = p at *
      go_wp2
      go_ret
      exact ⟨by rw [HR.out]; rfl, rfl⟩

set_option maxRecDepth 100000 in
set_option maxHeartbeats 800000 in
theorem refAhead (a b : Bytes) (w : World) (ha : a.length ≤ maxLen) (hb : b.length ≤ maxLen) (r : Bool) (hr : decide (Bin.R a b) = r) :
    Calls Tryz.prog 58 #[.string (S a), .string (S b)] w fun e w' => e = .returned (.bool r) ∧ w = w' := by
  have h1 := fun w => Lib.hid (refPath a w ha)
  have h2 := fun w => Lib.hid (refPath b w hb)
  have HR : Hid ((Op.bytesLess (Bin.of a) (Bin.of b) || ((Bin.of a == Bin.of b) && Op.bytesLess a b)) = r) := by
    show _ = r
    rw [← hr, bytesLess_eq, bytesLess_eq, Bool.eq_iff_iff]
    simp only [Bool.or_eq_true, Bool.and_eq_true, decide_eq_true_eq, beq_iff_eq]
    exact (Bin.R_iff a b).symm
  clear hr ha hb
  generalize Bin.of a = p at *
  generalize Bin.of b = q at *
  have c1 : Op.bytesLess p q = true ∨ Op.bytesLess p q = false := by cases Op.bytesLess p q <;> simp
  have c2 : (p == q) = true ∨ (p == q) = false := by cases p == q <;> simp
  have c3 : Op.bytesLess a b = true ∨ Op.bytesLess a b = false := by cases Op.bytesLess a b <;> simp
  rcases c1 with c1 | c1 <;> rcases c2 with c2 | c2 <;> rcases c3 with c3 | c3 <;>
  · have H := HR.out
    rw [c1, c2, c3] at H
    have HH := Lib.hid H
    clear H HR
    go_enter Tryz.func58, Tryz.ntmps58
    go_wp2_with fail
    refine (h1 _).out.mono ?_
    rintro e w1 ⟨rfl, rfl⟩
    go_wp2_with fail
    refine (h2 _).out.mono ?_
    rintro e w1 ⟨rfl, rfl⟩
    go_wp2
    go_ret
    exact ⟨by rw [← HH.out]; rfl, rfl⟩
end Go.Proofs.YtjcockcilkiggaaGreat
