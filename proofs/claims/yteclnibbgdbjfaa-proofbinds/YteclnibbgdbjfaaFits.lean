/- slices.Equal at []string returns whether two lists of strings are the same; wire.fits returns whether the encodings of a list of strings have at most 600 bytes together. Both write nothing. -/
import Derived.Test.YteclnibbgdbjfaaKit
import Derived.Test.YteclnibbgdbjfaaWire
namespace Go.Proofs.Yteclnibbgdbjfaa
open Go.RowKit

set_option maxHeartbeats 400000 in
theorem fits (A : Option Addr) (ca : Nat) (ss : List Bytes) (w : World) (hm : ss.length ≤ maxLen) (b : Bool) (hb : Wire.fitsB ss = b) (hA : Row w A (scells ss)) :
    Calls Try.prog 70 #[.slice A ss.length ca] w fun e w' => e = .returned (.bool b) ∧ w = w' := by
  unfold maxLen at hm
  have HB := Lib.hid hb
  clear hb
  go_enter Try.func70, Try.ntmps70
  go_wp2
  go_loop [3, 8] (fun l i => ∃ k n : Nat, k ≤ ss.length ∧ i = .int .i64 k ∧ l = .int .i64 (600 - (n : Int)) ∧ n ≤ 600 ∧ Hid (Wire.encLen (ss.take k) = n)) (fun _ i => ss.length - (intOf i).toNat)
  case atStart => exact ⟨0, 0, Nat.zero_le _, rfl, rfl, by omega, rfl⟩
  case round =>
    obtain ⟨k, n, hk, rfl, rfl, hn, hpre⟩ := hrel
    by_cases hlt : k < ss.length
    · obtain ⟨g, off, rfl, hc⟩ := hA (by rw [scells_length]; omega)
      have h1 := hc k (by rw [scells_length]; exact hlt)
      simp only [scells, List.getElem_map] at h1
      have hi0 : (0 : Int) ≤ (k : Int) := by omega
      have hi1 : (k : Int) < (ss.length : Int) := by omega
      have hst := Wire.encLen_step ss k hlt
      rw [hpre.out] at hst
      have hle := Wire.encLen_take_le ss (k + 1)
      clear hA hc
      by_cases hgt : n + (2 + ss[k].length) ≤ 600
      · have HS := Lib.hid hst
        clear hst hle
        go_wp2
        go_round
        case rel => exact ⟨k + 1, n + (2 + ss[k].length), by omega, by go_num, by go_num, by omega, HS⟩
        case measure => simp [intOf]; omega
      · have HF : Hid (b = false) := by
          show b = false
          rw [← HB.out]
          simp only [Wire.fitsB, decide_eq_false_iff_not]
          omega
        clear hst hle
        go_wp2
        go_ret
        exact ⟨by rw [HF.out]; rfl, rfl⟩
    · have HF : Hid (b = true) := by
        show b = true
        rw [← HB.out]
        have := hpre.out
        rw [List.take_of_length_le (by omega)] at this
        simp only [Wire.fitsB, decide_eq_true_eq]
        omega
      go_wp2
      go_ret
      exact ⟨by rw [HF.out]; rfl, rfl⟩
end Go.Proofs.Yteclnibbgdbjfaa
