/- package path: Name, isPath, lowest, Of and Bit return what the plain functions say; they write nothing that was there. -/
import Derived.Test.YtknhohlpjhkmfaaMark
import Derived.Test.YtknhohlpjhkmfaaBase
import Derived.Lib.BufferWrite
namespace Go.Proofs.Ytknhohlpjhkmfaa
open Go.RowKit

theorem nameByte_val (c : UInt8) : ((decide ((97 : Int) ≤ (c.toNat : Int)) && decide ((c.toNat : Int) ≤ 122)) || (decide ((48 : Int) ≤ (c.toNat : Int)) && decide ((c.toNat : Int) ≤ 57))) = Bin.nameByte c := by
  unfold Bin.nameByte
  congr 2 <;> exact decide_eq_decide.2 (by omega)
theorem bitByte_val (c : UInt8) : (((c.toNat : Int) == 48) || ((c.toNat : Int) == 49)) = Bin.bitByte c := by
  unfold Bin.bitByte
  congr 1 <;> rw [Bool.eq_iff_iff, beq_iff_eq, beq_iff_eq] <;> omega

set_option maxHeartbeats 400000 in
theorem only_name1 (c : UInt8) (w : World) (b : Bool) (hb : Bin.nameByte c = b) :
    Calls Try.prog 28 #[.int .u8 (c.toNat : Int)] w fun e w' => e = .returned (.bool b) ∧ w = w' := by
  have HV := Lib.hid ((nameByte_val c).trans hb)
  clear hb
  generalize (c.toNat : Int) = x at *
  have h1 : decide ((97 : Int) ≤ x) = true ∨ decide ((97 : Int) ≤ x) = false := by cases decide ((97 : Int) ≤ x) <;> simp
  have h2 : decide (x ≤ 122) = true ∨ decide (x ≤ 122) = false := by cases decide (x ≤ 122) <;> simp
  have h3 : decide ((48 : Int) ≤ x) = true ∨ decide ((48 : Int) ≤ x) = false := by cases decide ((48 : Int) ≤ x) <;> simp
  have h4 : decide (x ≤ 57) = true ∨ decide (x ≤ 57) = false := by cases decide (x ≤ 57) <;> simp
  rcases h1 with h1 | h1 <;> rcases h2 with h2 | h2 <;> rcases h3 with h3 | h3 <;> rcases h4 with h4 | h4 <;>
  · have H := HV.out
    rw [h1, h2, h3, h4] at H
    clear HV
    have HH := Lib.hid H
    clear H
    go_enter Try.func28, Try.ntmps28
    go_wp2
    go_ret
    exact ⟨by rw [← HH.out]; rfl, rfl⟩

set_option maxHeartbeats 400000 in
theorem only_name (l : Bytes) (w : World) (hl : l.length ≤ maxLen) (b : Bool) (hb : l.all Bin.nameByte = b) :
    Calls Try.prog 27 #[.string (S l), .func (.func 28) #[] #[]] w fun e w' => e = .returned (.bool b) ∧ w = w' := by
  unfold maxLen at hl
  have HB := Lib.hid hb
  clear hb
  go_enter Try.func27, Try.ntmps27
  go_wp2
  go_loop [5] (fun i => ∃ k : Nat, k ≤ l.length ∧ i = .int .i64 k ∧ Hid ((l.take k).all Bin.nameByte = true)) (fun i => l.length - (intOf i).toNat)
  case atStart => exact ⟨0, Nat.zero_le _, rfl, rfl⟩
  case round =>
    obtain ⟨k, hk, rfl, hpre⟩ := hrel
    by_cases hlt : k < l.length
    · have hi0 : (0 : Int) ≤ (k : Int) := by omega
      have hi1 : (k : Int) < (l.length : Int) := by omega
      by_cases hv : Bin.nameByte l[k] = true
      · have HS : Hid ((l.take (k + 1)).all Bin.nameByte = true) := by
          show (l.take (k + 1)).all Bin.nameByte = true
          rw [List.take_succ_eq_append_getElem hlt, List.all_append, hpre.out]
          simp [hv]
        have ht := fun w => Lib.hid (only_name1 l[k] w true hv)
        clear hv
        go_wp2_with fail
        refine (ht _).out.mono ?_
        rintro e w1 ⟨rfl, rfl⟩
        go_wp2
        go_round
        case rel => exact ⟨k + 1, by omega, by go_num, HS⟩
        case measure => simp [intOf]; omega
      · rw [Bool.not_eq_true] at hv
        have HF : Hid (b = false) := by
          show b = false
          rw [← HB.out, List.all_eq_false]
          exact ⟨l[k], List.getElem_mem hlt, by simp [hv]⟩
        have ht := fun w => Lib.hid (only_name1 l[k] w false hv)
        clear hv
        go_wp2_with fail
        refine (ht _).out.mono ?_
        rintro e w1 ⟨rfl, rfl⟩
        go_wp2
        go_ret
        exact ⟨by rw [HF.out]; rfl, rfl⟩
    · have HF : Hid (b = true) := by
        show b = true
        rw [← HB.out]
        have := hpre.out
        rwa [List.take_of_length_le (by omega)] at this
      go_wp2
      go_ret
      exact ⟨by rw [HF.out]; rfl, rfl⟩

end Go.Proofs.Ytknhohlpjhkmfaa
/- package path: Name and isPath return whether a string is a name or a path; lowest returns the sixteen lowest bits; Of returns the path of a name. They write nothing that was there. -/
namespace Go.Proofs.Ytknhohlpjhkmfaa
open Go.RowKit

theorem le_int (a b : Nat) : decide ((a : Int) ≤ (b : Int)) = decide (a ≤ b) := decide_eq_decide.2 (by omega)

set_option maxHeartbeats 400000 in
theorem pathName (l : Bytes) (w : World) (hl : l.length ≤ maxLen) (b : Bool) (hb : Bin.name l = b) :
    Calls Try.prog 25 #[.string (S l)] w fun e w' => e = .returned (.bool b) ∧ w = w' := by
  have ht := fun w => Lib.hid (only_name l w hl _ rfl)
  clear hl
  by_cases h1 : 1 ≤ l.length
  · by_cases h2 : l.length ≤ 12
    · have HB : Hid (b = l.all Bin.nameByte) := by
        show b = _
        rw [← hb, Bin.name, decide_eq_true h1, decide_eq_true h2]
        rfl
      clear hb
      generalize l.all Bin.nameByte = c at *
      have c1 : decide ((1 : Int) ≤ (l.length : Int)) = true := decide_eq_true (by omega)
      have c2 : decide ((l.length : Int) ≤ 12) = true := decide_eq_true (by omega)
      clear h1 h2
      go_enter Try.func25, Try.ntmps25
      go_wp2_with fail
      refine (ht _).out.mono ?_
      rintro e w1 ⟨rfl, rfl⟩
      go_wp2
      go_ret
      exact ⟨by rw [HB.out]; rfl, rfl⟩
    · obtain rfl : b = false := by rw [← hb, Bin.name, decide_eq_false h2]; simp
      have c1 : decide ((1 : Int) ≤ (l.length : Int)) = true := decide_eq_true (by omega)
      have c2 : decide ((l.length : Int) ≤ 12) = false := decide_eq_false (by omega)
      clear h1 h2 hb ht
      go_enter Try.func25, Try.ntmps25
      go_wp2
      go_ret
      exact ⟨rfl, rfl⟩
  · obtain rfl : b = false := by rw [← hb, Bin.name, decide_eq_false h1]; simp
    have c1 : decide ((1 : Int) ≤ (l.length : Int)) = false := decide_eq_false (by omega)
    clear h1 hb ht
    go_enter Try.func25, Try.ntmps25
    go_wp2
    go_ret
    exact ⟨rfl, rfl⟩


/-- The array while its last places are filled. -/
def lowCells (n k : Nat) : List Value := List.replicate k (.int .u8 0) ++ bcells (Bin.low (16 - k) n)

theorem lowCells_length (n k : Nat) (hk : k ≤ 16) : (lowCells n k).length = 16 := by
  simp [lowCells, bcells_length, Bin.low_length]
  omega
theorem lowCells_at (n j : Nat) : (lowCells n (j + 1))[j]? = some (.int .u8 0) := by
  unfold lowCells
  rw [List.getElem?_append_left (by simp), List.getElem?_replicate, if_pos (by omega)]
theorem lowCells_set (n j : Nat) (hj : j < 16) : (lowCells n (j + 1)).set j (.int .u8 ((Bin.digit (n / 2 ^ (16 - (j + 1)))).toNat : Int)) = lowCells n j := by
  unfold lowCells
  rw [show 16 - j = (16 - (j + 1)) + 1 by omega, Bin.low_front, List.replicate_succ', List.append_assoc, List.set_append, if_neg (by simp)]
  simp [bcells]
theorem lowCells_all (n : Nat) : lowCells n 0 = bcells (Bin.low 16 n) := by
  unfold lowCells
  rw [List.replicate_zero, List.nil_append, Nat.sub_zero]
theorem lowCells_store (w : World) (n j : Nat) (t : TypeId) (hj : j < 16) :
    (w.alloc (.cells (lowCells n (j + 1)).toArray t)).setCell ⟨w.heap.size, j, none⟩ (.int .u8 ((Bin.digit (n / 2 ^ (16 - (j + 1)))).toNat : Int)) = w.alloc (.cells (lowCells n j).toArray t) := by
  rw [World.setCell_alloc_new, List.setIfInBounds_toArray, lowCells_set n j hj]

theorem digit_val (m : Nat) (hm : m < 18446744073709551616) : (48 + bits .and .u64 (m : Int) 1) % 256 = ((Bin.digit m).toNat : Int) := by
  have h := u64_and_nat m 1 hm (by omega)
  have e : m &&& 1 = m % 2 := Nat.and_two_pow_sub_one_eq_mod m 1
  rw [e] at h
  rw [show (1 : Int) = ((1 : Nat) : Int) from rfl, h, Bin.digit_toNat]
  omega
end Go.Proofs.Ytknhohlpjhkmfaa
