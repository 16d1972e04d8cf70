/- package path: Name, isPath, lowest, Of and Bit return what the plain functions say; they write nothing that was there. -/
import Derived.Test.YteclnibbgdbjfaaMark
import Derived.Test.YteclnibbgdbjfaaBin
namespace Go.Proofs.Yteclnibbgdbjfaa
open Go.RowKit

theorem nameByte_val (c : UInt8) : ((decide ((97 : Int) ≤ (c.toNat : Int)) && decide ((c.toNat : Int) ≤ 122)) || (decide ((48 : Int) ≤ (c.toNat : Int)) && decide ((c.toNat : Int) ≤ 57))) = Bin.nameByte c := by
  unfold Bin.nameByte
  congr 2 <;> exact decide_eq_decide.2 (by omega)
theorem bitByte_val (c : UInt8) : (((c.toNat : Int) == 48) || ((c.toNat : Int) == 49)) = Bin.bitByte c := by
  unfold Bin.bitByte
  congr 1 <;> rw [Bool.eq_iff_iff, beq_iff_eq, beq_iff_eq] <;> omega

set_option maxHeartbeats 400000 in
theorem only_name1 (c : UInt8) (w : World) (b : Bool) (hb : Bin.nameByte c = b) :
    Calls Try.prog 64 #[.int .u8 (c.toNat : Int)] w fun e w' => e = .returned (.bool b) ∧ w = w' := by
  have HV := Lib.hid ((nameByte_val c).trans hb)
  clear hb
  generalize (c.toNat : Int) = x at *
  have h1 : decide ((97 : Int) ≤ x) = true ∨ decide ((97 : Int) ≤ x) = false := by cases decide ((97 : Int) ≤ x) <;> simp
  have h2 : decide (x ≤ 122) = true ∨ decide (x ≤ 122) = false := by cases decide (x ≤ 122) <;> simp
  have h3 : decide ((48 : Int) ≤ x) = true ∨ decide ((48 : Int) ≤ x) = false := by cases decide ((48 : Int) ≤ x) <;> simp
  have h4 : decide (x ≤ 57) = true ∨ decide (x ≤ 57) = false := by cases decide (x ≤ 57) <;> simp
  rcases h1 with h1 | h1 <;> rcases h2 with h2 | h2 <;> rcases h3 with h3 | h3 <;> rcases h4 with h4 | h4 <;>
  · have H := HV.out
    rw [h1, h2, h3, h4] at H
    clear HV
    have HH := Lib.hid H
    clear H
    go_enter Try.func64, Try.ntmps64
    go_wp2
    go_ret
    exact ⟨by rw [← HH.out]; rfl, rfl⟩

set_option maxHeartbeats 400000 in
theorem only_name (l : Bytes) (w : World) (hl : l.length ≤ maxLen) (b : Bool) (hb : l.all Bin.nameByte = b) :
    Calls Try.prog 63 #[.string (S l), .func (.func 64) #[] #[]] w fun e w' => e = .returned (.bool b) ∧ w = w' := by
  unfold maxLen at hl
  have HB := Lib.hid hb
  clear hb
  go_enter Try.func63, Try.ntmps63
  go_wp2
  go_loop [5] (fun i => ∃ k : Nat, k ≤ l.length ∧ i = .int .i64 k ∧ Hid ((l.take k).all Bin.nameByte = true)) (fun i => l.length - (intOf i).toNat)
  case atStart => exact ⟨0, Nat.zero_le _, rfl, rfl⟩
  case round =>
    obtain ⟨k, hk, rfl, hpre⟩ := hrel
    by_cases hlt : k < l.length
    · have hi0 : (0 : Int) ≤ (k : Int) := by omega
      have hi1 : (k : Int) < (l.length : Int) := by omega
      by_cases hv : Bin.nameByte l[k] = true
      · have HS : Hid ((l.take (k + 1)).all Bin.nameByte = true) := by
          show (l.take (k + 1)).all Bin.nameByte = true
          rw [List.take_succ_eq_append_getElem hlt, List.all_append, hpre.out]
          simp [hv]
        have ht := fun w => Lib.hid (only_name1 l[k] w true hv)
        clear hv
        go_wp2_with fail
        refine (ht _).out.mono ?_
        rintro e w1 ⟨rfl, rfl⟩
        go_wp2
        go_round
        case rel => exact ⟨k + 1, by omega, by go_num, HS⟩
        case measure => simp [intOf]; omega
      · rw [Bool.not_eq_true] at hv
        have HF : Hid (b = false) := by
          show b = false
          rw [← HB.out, List.all_eq_false]
          exact ⟨l[k], List.getElem_mem hlt, by simp [hv]⟩
        have ht := fun w => Lib.hid (only_name1 l[k] w false hv)
        clear hv
        go_wp2_with fail
        refine (ht _).out.mono ?_
        rintro e w1 ⟨rfl, rfl⟩
        go_wp2
        go_ret
        exact ⟨by rw [HF.out]; rfl, rfl⟩
    · have HF : Hid (b = true) := by
        show b = true
        rw [← HB.out]
        have := hpre.out
        rwa [List.take_of_length_le (by omega)] at this
      go_wp2
      go_ret
      exact ⟨by rw [HF.out]; rfl, rfl⟩

end Go.Proofs.Yteclnibbgdbjfaa
