/- slices.Equal at requests returns whether two lists of requests are the same. It writes nothing. -/
import Derived.Test.YtknhohlpjhkmfaaAskRow
namespace Go.Proofs.Ytknhohlpjhkmfaa
set_option maxRecDepth 100000
open Go.RowKit

set_option maxHeartbeats 1000000 in
theorem eqAsks (A C : Option Addr) (ca cc : Nat) (ss tt : List Ak) (w : World) (hm : ss.length ≤ maxLen) (b : Bool) (hb : decide (ss = tt) = b)
    (hA : Row w A (qcells ss)) (hC : Row w C (qcells tt)) :
    Calls Try.prog 16 #[.slice A ss.length ca, .slice C tt.length cc] w fun e w' => e = .returned (.bool b) ∧ ∃ m, w' = w.drewN m := by
  unfold maxLen at hm
  by_cases hlen : ss.length = tt.length
  · have HB := Lib.hid hb
    clear hb
    have HL := Lib.hid hlen
    have hne : ((ss.length : Int) != (tt.length : Int)) = false := by simp [hlen]
    clear hlen
    go_enter Try.func16, Try.ntmps16
    go_wp2
    go_loopw [13] (fun i wr => ∃ k m : Nat, k ≤ ss.length ∧ i = .int .i64 k ∧ wr = w.drewN m ∧ Hid (ss.take k = tt.take k)) (fun i _ => ss.length - (intOf i).toNat)
    case atStart => exact ⟨0, 0, Nat.zero_le _, rfl, rfl, rfl⟩
    case round =>
      obtain ⟨k, m, hk, rfl, rfl, hpre⟩ := hrel
      by_cases hlt : k < ss.length
      · have hlt' : k < tt.length := by have := HL.out; omega
        obtain ⟨g, off, rfl, h1, h2, h3, h4⟩ := hA.ask k hlt
        obtain ⟨g', off', rfl, j1, j2, j3, j4⟩ := hC.ask k hlt'
        have hi0 : (0 : Int) ≤ (k : Int) := by omega
        have hi1 : (k : Int) < (ss.length : Int) := by omega
        have hi2 : (k : Int) < (tt.length : Int) := by omega
        clear hA hC
        have HS : Hid (ss[k] = tt[k] → ss.take (k + 1) = tt.take (k + 1)) := by
          show _ → _
          intro e1
          rw [List.take_succ_eq_append_getElem hlt, List.take_succ_eq_append_getElem hlt', hpre.out, e1]
        have HN : Hid (¬ ss[k] = tt[k] → b = false) := by
          show _ → _
          intro h
          rw [← HB.out, decide_eq_false_iff_not]
          rintro rfl
          exact h rfl
        obtain ⟨⟨a1, a2, a3, a4⟩, hx⟩ : ∃ x, ss[k] = x := ⟨_, rfl⟩
        obtain ⟨⟨b1, b2, b3, b4⟩, hy⟩ : ∃ x, tt[k] = x := ⟨_, rfl⟩
        rw [hx] at h1 h2 h3 h4
        rw [hy] at j1 j2 j3 j4
        rw [hx, hy] at HS HN
        clear hx hy
        dsimp only at h1 h2 h3 h4 j1 j2 j3 j4
        have fin : ∀ (x y z u : Bool), (a1 == b1) = x → (a2 == b2) = y → ((a3 : Int) == (b3 : Int)) = z → ((a4 : Int) == (b4 : Int)) = u → (x && (y && (z && u))) = false → b = false := by
          intro x y z u e1 e2 e3 e4 h
          refine HN.out fun e => ?_
          simp only [Prod.mk.injEq] at e
          obtain ⟨rfl, rfl, rfl, rfl⟩ := e
          simp at e1 e2 e3 e4
          subst e1; subst e2; subst e3; subst e4
          exact absurd h (by decide)
        have fin2 : (a1 == b1) = true → (a2 == b2) = true → ((a3 : Int) == (b3 : Int)) = true → ((a4 : Int) == (b4 : Int)) = true → ss.take (k + 1) = tt.take (k + 1) := by
          intro e1 e2 e3 e4
          refine HS.out ?_
          rw [beq_iff_eq] at e1 e2 e3 e4
          rw [e1, e2, Int.ofNat_inj.1 e3, Int.ofNat_inj.1 e4]
        cases c1 : a1 == b1 with
        | false =>
          have HF := Lib.hid (fin _ _ _ _ c1 rfl rfl rfl (by simp))
          clear HS HN fin fin2
          go_wp2
          go_quiet (fail)
          go_wp2
          go_ret
          exact ⟨by rw [HF.out]; rfl, _, World.drewN_drewN _ _ _⟩
        | true =>
        cases c2 : a2 == b2 with
        | false =>
          have HF := Lib.hid (fin _ _ _ _ c1 c2 rfl rfl (by simp))
          clear HS HN fin fin2
          go_wp2
          go_quiet (fail)
          go_wp2
          go_ret
          exact ⟨by rw [HF.out]; rfl, _, World.drewN_drewN _ _ _⟩
        | true =>
        cases c3 : (a3 : Int) == (b3 : Int) with
        | false =>
          have HF := Lib.hid (fin _ _ _ _ c1 c2 c3 rfl (by simp))
          clear HS HN fin fin2
          go_wp2
          go_quiet (fail)
          go_wp2
          go_ret
          exact ⟨by rw [HF.out]; rfl, _, World.drewN_drewN _ _ _⟩
        | true =>
        cases c4 : (a4 : Int) == (b4 : Int) with
        | false =>
          have HF := Lib.hid (fin _ _ _ _ c1 c2 c3 c4 (by simp))
          clear HS HN fin fin2
          go_wp2
          go_quiet (fail)
          go_wp2
          go_ret
          exact ⟨by rw [HF.out]; rfl, _, World.drewN_drewN _ _ _⟩
        | true =>
          have HS' := Lib.hid (fin2 c1 c2 c3 c4)
          clear HS HN fin fin2
          go_wp2
          go_quiet (fail)
          go_wp2
          go_roundw
          case rel => exact ⟨k + 1, _, by omega, by go_num, rfl, HS'⟩
          case measure => simp [intOf]; omega
      · have HF : Hid (b = true) := by
          show b = true
          rw [← HB.out, decide_eq_true_eq]
          have := hpre.out
          have e2 := HL.out
          rwa [List.take_of_length_le (by omega), List.take_of_length_le (by omega)] at this
        go_wp2
        go_ret
        exact ⟨by rw [HF.out]; rfl, _, rfl⟩
  · have hne : ((ss.length : Int) != (tt.length : Int)) = true := by simp; omega
    have HF : Hid (b = false) := by
      show b = false
      rw [← hb, decide_eq_false_iff_not]
      rintro rfl
      exact hlen rfl
    clear hlen hb
    go_enter Try.func16, Try.ntmps16
    go_wp2
    go_ret
    exact ⟨by rw [HF.out]; rfl, 0, rfl⟩

set_option maxHeartbeats 1000000 in
theorem refSameAsks (A C : Option Addr) (ca cc : Nat) (ss tt : List Ak) (w : World) (hm : ss.length ≤ maxLen) (b : Bool) (hb : decide (ss = tt) = b)
    (hA : Row w A (qcells ss)) (hC : Row w C (qcells tt)) :
    Calls Try.prog 14 #[.slice A ss.length ca, .slice C tt.length cc] w fun e w' => e = .returned (.bool b) ∧ ∃ m, w' = w.drewN m := by
  unfold maxLen at hm
  by_cases hlen : ss.length = tt.length
  · have HB := Lib.hid hb
    clear hb
    have HL := Lib.hid hlen
    have hne : ((ss.length : Int) != (tt.length : Int)) = false := by simp [hlen]
    clear hlen
    go_enter Try.func14, Try.ntmps14
    go_wp2
    go_loopw [13] (fun i wr => ∃ k m : Nat, k ≤ ss.length ∧ i = .int .i64 k ∧ wr = w.drewN m ∧ Hid (ss.take k = tt.take k)) (fun i _ => ss.length - (intOf i).toNat)
    case atStart => exact ⟨0, 0, Nat.zero_le _, rfl, rfl, rfl⟩
    case round =>
      obtain ⟨k, m, hk, rfl, rfl, hpre⟩ := hrel
      by_cases hlt : k < ss.length
      · have hlt' : k < tt.length := by have := HL.out; omega
        obtain ⟨g, off, rfl, h1, h2, h3, h4⟩ := hA.ask k hlt
        obtain ⟨g', off', rfl, j1, j2, j3, j4⟩ := hC.ask k hlt'
        have hi0 : (0 : Int) ≤ (k : Int) := by omega
        have hi1 : (k : Int) < (ss.length : Int) := by omega
        have hi2 : (k : Int) < (tt.length : Int) := by omega
        clear hA hC
        have HS : Hid (ss[k] = tt[k] → ss.take (k + 1) = tt.take (k + 1)) := by
          show _ → _
          intro e1
          rw [List.take_succ_eq_append_getElem hlt, List.take_succ_eq_append_getElem hlt', hpre.out, e1]
        have HN : Hid (¬ ss[k] = tt[k] → b = false) := by
          show _ → _
          intro h
          rw [← HB.out, decide_eq_false_iff_not]
          rintro rfl
          exact h rfl
        obtain ⟨⟨a1, a2, a3, a4⟩, hx⟩ : ∃ x, ss[k] = x := ⟨_, rfl⟩
        obtain ⟨⟨b1, b2, b3, b4⟩, hy⟩ : ∃ x, tt[k] = x := ⟨_, rfl⟩
        rw [hx] at h1 h2 h3 h4
        rw [hy] at j1 j2 j3 j4
        rw [hx, hy] at HS HN
        clear hx hy
        dsimp only at h1 h2 h3 h4 j1 j2 j3 j4
        have fin : ∀ (x y z u : Bool), (a1 == b1) = x → (a2 == b2) = y → ((a3 : Int) == (b3 : Int)) = z → ((a4 : Int) == (b4 : Int)) = u → (x && (y && (z && u))) = false → b = false := by
          intro x y z u e1 e2 e3 e4 h
          refine HN.out fun e => ?_
          simp only [Prod.mk.injEq] at e
          obtain ⟨rfl, rfl, rfl, rfl⟩ := e
          simp at e1 e2 e3 e4
          subst e1; subst e2; subst e3; subst e4
          exact absurd h (by decide)
        have fin2 : (a1 == b1) = true → (a2 == b2) = true → ((a3 : Int) == (b3 : Int)) = true → ((a4 : Int) == (b4 : Int)) = true → ss.take (k + 1) = tt.take (k + 1) := by
          intro e1 e2 e3 e4
          refine HS.out ?_
          rw [beq_iff_eq] at e1 e2 e3 e4
          rw [e1, e2, Int.ofNat_inj.1 e3, Int.ofNat_inj.1 e4]
        cases c1 : a1 == b1 with
        | false =>
          have HF := Lib.hid (fin _ _ _ _ c1 rfl rfl rfl (by simp))
          clear HS HN fin fin2
          go_wp2
          go_quiet (fail)
          go_wp2
          go_ret
          exact ⟨by rw [HF.out]; rfl, _, World.drewN_drewN _ _ _⟩
        | true =>
        cases c2 : a2 == b2 with
        | false =>
          have HF := Lib.hid (fin _ _ _ _ c1 c2 rfl rfl (by simp))
          clear HS HN fin fin2
          go_wp2
          go_quiet (fail)
          go_wp2
          go_ret
          exact ⟨by rw [HF.out]; rfl, _, World.drewN_drewN _ _ _⟩
        | true =>
        cases c3 : (a3 : Int) == (b3 : Int) with
        | false =>
          have HF := Lib.hid (fin _ _ _ _ c1 c2 c3 rfl (by simp))
          clear HS HN fin fin2
          go_wp2
          go_quiet (fail)
          go_wp2
          go_ret
          exact ⟨by rw [HF.out]; rfl, _, World.drewN_drewN _ _ _⟩
        | true =>
        cases c4 : (a4 : Int) == (b4 : Int) with
        | false =>
          have HF := Lib.hid (fin _ _ _ _ c1 c2 c3 c4 (by simp))
          clear HS HN fin fin2
          go_wp2
          go_quiet (fail)
          go_wp2
          go_ret
          exact ⟨by rw [HF.out]; rfl, _, World.drewN_drewN _ _ _⟩
        | true =>
          have HS' := Lib.hid (fin2 c1 c2 c3 c4)
          clear HS HN fin fin2
          go_wp2
          go_quiet (fail)
          go_wp2
          go_roundw
          case rel => exact ⟨k + 1, _, by omega, by go_num, rfl, HS'⟩
          case measure => simp [intOf]; omega
      · have HF : Hid (b = true) := by
          show b = true
          rw [← HB.out, decide_eq_true_eq]
          have := hpre.out
          have e2 := HL.out
          rwa [List.take_of_length_le (by omega), List.take_of_length_le (by omega)] at this
        go_wp2
        go_ret
        exact ⟨by rw [HF.out]; rfl, _, rfl⟩
  · have hne : ((ss.length : Int) != (tt.length : Int)) = true := by simp; omega
    have HF : Hid (b = false) := by
      show b = false
      rw [← hb, decide_eq_false_iff_not]
      rintro rfl
      exact hlen rfl
    clear hlen hb
    go_enter Try.func14, Try.ntmps14
    go_wp2
    go_ret
    exact ⟨by rw [HF.out]; rfl, 0, rfl⟩
end Go.Proofs.Ytknhohlpjhkmfaa
