/- slices.Equal at []string returns whether two lists of strings are the same. It writes nothing. -/
import Derived.Test.YtmmmolbejfdamaaKit
namespace Go.Proofs.Ytmmmolbejfdamaa
open Go.RowKit

set_option maxHeartbeats 400000 in
theorem eqStrs (A C : Option Addr) (ca cc : Nat) (ss tt : List Bytes) (w : World) (hm : ss.length ≤ maxLen) (b : Bool) (hb : decide (ss = tt) = b)
    (hA : Row w A (scells ss)) (hC : Row w C (scells tt)) :
    Calls Try.prog 18 #[.slice A ss.length ca, .slice C tt.length cc] w fun e w' => e = .returned (.bool b) ∧ ∃ m, w' = w.drewN m := by
  unfold maxLen at hm
  by_cases hlen : ss.length = tt.length
  · have HB := Lib.hid hb
    clear hb
    have HL := Lib.hid hlen
    have hne : ((ss.length : Int) != (tt.length : Int)) = false := by simp [hlen]
    have hl1 : ss.length ≤ tt.length := by omega
    clear hlen
    go_enter Try.func18, Try.ntmps18
    go_wp2
    go_loopw [13] (fun i wr => ∃ k m : Nat, k ≤ ss.length ∧ i = .int .i64 k ∧ wr = w.drewN m ∧ Hid (ss.take k = tt.take k)) (fun i _ => ss.length - (intOf i).toNat)
    case atStart => exact ⟨0, 0, Nat.zero_le _, rfl, rfl, rfl⟩
    case round =>
      obtain ⟨k, m, hk, rfl, rfl, hpre⟩ := hrel
      by_cases hlt : k < ss.length
      · obtain ⟨g, off, rfl, hc⟩ := hA (by rw [scells_length]; omega)
        obtain ⟨g', off', rfl, hc'⟩ := hC (by rw [scells_length]; omega)
        have hlt' : k < tt.length := by omega
        have h1 := hc k (by rw [scells_length]; exact hlt)
        have h2 := hc' k (by rw [scells_length]; exact hlt')
        simp only [scells, List.getElem_map] at h1 h2
        have hi0 : (0 : Int) ≤ (k : Int) := by omega
        have hi1 : (k : Int) < (ss.length : Int) := by omega
        have hi2 : (k : Int) < (tt.length : Int) := by omega
        clear hA hC hc hc'
        by_cases heq : ss[k] = tt[k]
        · have hbe : (ss[k] == tt[k]) = true := by simp [heq]
          have HS : Hid (ss.take (k + 1) = tt.take (k + 1)) := by
            show ss.take (k + 1) = tt.take (k + 1)
            rw [List.take_succ_eq_append_getElem hlt, List.take_succ_eq_append_getElem hlt', hpre.out, heq]
          clear heq
          go_wp2
          go_quiet (fail)
          go_wp2
          go_roundw
          case rel => exact ⟨k + 1, _, by omega, by go_num, rfl, HS⟩
          case measure => simp [intOf]; omega
        · have hbe : (ss[k] == tt[k]) = false := by simp [heq]
          have HF : Hid (b = false) := by
            show b = false
            rw [← HB.out]
            simp only [decide_eq_false_iff_not]
            rintro rfl
            exact heq rfl
          clear heq
          go_wp2
          go_quiet (fail)
          go_wp2
          go_ret
          exact ⟨by rw [HF.out]; rfl, _, World.drewN_drewN _ _ _⟩
      · have HF : Hid (b = true) := by
          show b = true
          rw [← HB.out]
          have := hpre.out
          have hl := HL.out
          rw [List.take_of_length_le (by omega), List.take_of_length_le (by omega)] at this
          simp [this]
        go_wp2
        go_ret
        exact ⟨by rw [HF.out]; rfl, _, rfl⟩
  · obtain rfl : b = false := by
      rw [← hb]
      simp only [decide_eq_false_iff_not]
      rintro rfl
      exact hlen rfl
    have hne : ((ss.length : Int) != (tt.length : Int)) = true := by simp; omega
    clear hb hlen
    go_enter Try.func18, Try.ntmps18
    go_wp2
    go_ret
    exact ⟨rfl, 0, rfl⟩
end Go.Proofs.Ytmmmolbejfdamaa
