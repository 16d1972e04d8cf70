/- slices.Equal at entries returns whether two lists of entries are the same (at strings: Fits). It writes nothing. -/
import Derived.Test.YtjcockcilkiggaaJ05
import Derived.Test.YtjcockcilkiggaaJ21
namespace Go.Proofs.Ytjcockcilkiggaa
open Go.RowKit

set_option maxRecDepth 100000 in
set_option maxHeartbeats 400000 in
theorem eqEnts (A C : Option Addr) (ca cc : Nat) (ss tt : List Ent) (w : World) (hm : ss.length ≤ maxLen) (b : Bool) (hb : decide (ss = tt) = b)
    (hA : Row w A (encells ss)) (hC : Row w C (encells tt)) :
    Calls Try.prog 12 #[.slice A ss.length ca, .slice C tt.length cc] w fun e w' => e = .returned (.bool b) ∧ ∃ m, w' = w.drewN m := by
  unfold maxLen at hm
  by_cases hlen : ss.length = tt.length
  · have HB := Lib.hid hb
    clear hb
    have HL := Lib.hid hlen
    have hne : ((ss.length : Int) != (tt.length : Int)) = false := by simp [hlen]
    have hl1 : ss.length ≤ tt.length := by omega
    clear hlen
    go_enter Try.func12, Try.ntmps12
    go_wp2
    go_loopw [13] (fun i wr => ∃ k m : Nat, k ≤ ss.length ∧ i = .int .i64 k ∧ wr = w.drewN m ∧ Hid (ss.take k = tt.take k)) (fun i _ => ss.length - (intOf i).toNat)
    case atStart => exact ⟨0, 0, Nat.zero_le _, rfl, rfl, rfl⟩
    case round =>
      obtain ⟨k, m, hk, rfl, rfl, hpre⟩ := hrel
      by_cases hlt : k < ss.length
      · have hlt' : k < tt.length := by omega
        obtain ⟨g, off, rfl, h1, h2⟩ := hA.ent k hlt
        obtain ⟨g', off', rfl, h3, h4⟩ := hC.ent k hlt'
        have hi0 : (0 : Int) ≤ (k : Int) := by omega
        have hi1 : (k : Int) < (ss.length : Int) := by omega
        have hi2 : (k : Int) < (tt.length : Int) := by omega
        clear hA hC
        have HS : Hid (ss[k].1 = tt[k].1 → ss[k].2 = tt[k].2 → ss.take (k + 1) = tt.take (k + 1)) := by
          show _ → _ → _
          intro e1 e2
          rw [List.take_succ_eq_append_getElem hlt, List.take_succ_eq_append_getElem hlt', hpre.out, Prod.ext e1 e2]
        have HN : Hid (¬ (ss[k].1 = tt[k].1 ∧ ss[k].2 = tt[k].2) → b = false) := by
          show _ → _
          intro h
          rw [← HB.out, decide_eq_false_iff_not]
          rintro rfl
          exact h ⟨rfl, rfl⟩
        generalize ss[k].1 = a1 at *
        generalize ss[k].2 = a2 at *
        generalize tt[k].1 = b1 at *
        generalize tt[k].2 = b2 at *
        have c1 : (a1 == b1) = true ∨ (a1 == b1) = false := by cases a1 == b1 <;> simp
        have c2 : (a2 == b2) = true ∨ (a2 == b2) = false := by cases a2 == b2 <;> simp
        rcases c1 with c1 | c1
        · rcases c2 with c2 | c2
          · have HS' := Lib.hid (HS.out (beq_iff_eq.1 c1) (beq_iff_eq.1 c2))
            clear HS HN
            go_wp2
            go_quiet (fail)
            go_wp2
            go_roundw
            case rel => exact ⟨k + 1, _, by omega, by go_num, rfl, HS'⟩
            case measure => simp [intOf]; omega
          · have HF := Lib.hid (HN.out (fun h => by rw [beq_eq_false_iff_ne] at c2; exact c2 h.2))
            clear HS HN
            go_wp2
            go_quiet (fail)
            go_wp2
            go_ret
            exact ⟨by rw [HF.out]; rfl, _, World.drewN_drewN _ _ _⟩
        · have HF := Lib.hid (HN.out (fun h => by rw [beq_eq_false_iff_ne] at c1; exact c1 h.1))
          clear HS HN c2
          go_wp2
          go_quiet (fail)
          go_wp2
          go_ret
          exact ⟨by rw [HF.out]; rfl, _, World.drewN_drewN _ _ _⟩
      · have HF : Hid (b = true) := by
          show b = true
          rw [← HB.out, decide_eq_true_eq]
          have := hpre.out
          have e2 := HL.out
          rwa [List.take_of_length_le (by omega), List.take_of_length_le (by omega)] at this
        go_wp2
        go_ret
        exact ⟨by rw [HF.out]; rfl, _, rfl⟩
  · have hne : ((ss.length : Int) != (tt.length : Int)) = true := by simp; omega
    have HF : Hid (b = false) := by
      show b = false
      rw [← hb, decide_eq_false_iff_not]
      rintro rfl
      exact hlen rfl
    clear hlen hb
    go_enter Try.func12, Try.ntmps12
    go_wp2
    go_ret
    exact ⟨by rw [HF.out]; rfl, 0, rfl⟩
end Go.Proofs.Ytjcockcilkiggaa
