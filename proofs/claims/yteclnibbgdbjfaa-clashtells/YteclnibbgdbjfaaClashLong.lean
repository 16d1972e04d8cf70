/- slices.ContainsFunc at strings with the closure of ClashTells: whether one of them has more than 1000 bytes; it writes nothing. -/
import Derived.Test.YteclnibbgdbjfaaMark
namespace Go.Proofs.Yteclnibbgdbjfaa
open Go.RowKit

def longS (s : Bytes) : Bool := decide (1000 < s.length)
set_option maxHeartbeats 400000 in
theorem long_one (s : Bytes) (w : World) (_hs : s.length ≤ maxLen) : Calls Try.prog 10 #[.string (S s)] w fun e w' => e = .returned (.bool (longS s)) ∧ w = w' := by
  have hD : longS s = decide (1000 < s.length) := rfl
  rw [hD]
  go_enter Try.func10, Try.ntmps10
  go_wp2
  go_ret
  exact ⟨by show Ending.returned (.bool (decide ((1000 : Int) < (s.length : Int)))) = _; rw [show decide ((1000 : Int) < (s.length : Int)) = decide (1000 < s.length) from decide_eq_decide.2 (by omega)], rfl⟩

set_option maxHeartbeats 400000 in
theorem longAny_index (A : Option Addr) (c : Nat) (ss : List Bytes) (w : World) (hm : ss.length ≤ maxLen) (hs : ∀ s ∈ ss, s.length ≤ maxLen) (b : Bool) (hb : ss.any longS = b) (hA : Row w A (scells ss)) :
    Calls Try.prog 23 #[.slice A ss.length c, .func (.func 10) #[] #[]] w fun e w' => ∃ i : Int, e = .returned (.int .i64 i) ∧ decide (0 ≤ i) = b ∧ w = w' := by
  unfold maxLen at hm
  have HB := Lib.hid hb
  clear hb
  go_enter Try.func23, Try.ntmps23
  go_wp2
  go_loop [8] (fun i => ∃ k : Nat, k ≤ ss.length ∧ i = .int .i64 k ∧ Hid ((ss.take k).any longS = false)) (fun i => ss.length - (intOf i).toNat)
  case atStart => exact ⟨0, Nat.zero_le _, rfl, rfl⟩
  case round =>
    obtain ⟨k, hk, rfl, hpre⟩ := hrel
    by_cases hlt : k < ss.length
    · obtain ⟨g, off, rfl, hc⟩ := hA (by rw [scells_length]; omega)
      have h1 := hc k (by rw [scells_length]; exact hlt)
      simp only [scells, List.getElem_map] at h1
      have hi0 : (0 : Int) ≤ (k : Int) := by omega
      have hi1 : (k : Int) < (ss.length : Int) := by omega
      have HS : Hid ((ss.take (k + 1)).any longS = longS ss[k]) := by
        show (ss.take (k + 1)).any longS = _
        rw [List.take_succ_eq_append_getElem hlt, List.any_append, hpre.out]
        simp
      have HT : Hid (longS ss[k] = true → b = true) := by
        show longS ss[k] = true → b = true
        intro h
        rw [← HB.out, List.any_eq_true]
        exact ⟨ss[k], List.getElem_mem hlt, h⟩
      have hG := Lib.hid (long_one ss[k] w (hs _ (List.getElem_mem hlt)))
      clear hA hc
      cases hv : longS ss[k] with
      | false =>
        rw [hv] at HS hG
        clear HT hv hs
        generalize ss[k] = s at *
        go_wp2_with fail
        refine hG.out.mono ?_
        rintro e w1 ⟨rfl, rfl⟩
        go_wp2
        go_round
        case rel => exact ⟨k + 1, by omega, by go_num, HS⟩
        case measure => simp [intOf]; omega
      | true =>
        rw [hv] at hG
        have HT' := Lib.hid (HT.out hv)
        clear HS HT hv hs
        generalize ss[k] = s at *
        go_wp2_with fail
        refine hG.out.mono ?_
        rintro e w1 ⟨rfl, rfl⟩
        go_wp2
        go_ret
        exact ⟨(k : Int), rfl, by rw [HT'.out]; simp, rfl⟩
    · have HFl : Hid (b = false) := by
        show b = false
        rw [← HB.out]
        have := hpre.out
        rwa [List.take_of_length_le (by omega)] at this
      go_wp2
      go_ret
      exact ⟨-1, rfl, by rw [HFl.out]; decide, rfl⟩

set_option maxHeartbeats 400000 in
theorem longAny (A : Option Addr) (c : Nat) (ss : List Bytes) (w : World) (hm : ss.length ≤ maxLen) (hs : ∀ s ∈ ss, s.length ≤ maxLen) (b : Bool) (hb : ss.any longS = b) (hA : Row w A (scells ss)) :
    Calls Try.prog 8 #[.slice A ss.length c, .func (.func 10) #[] #[]] w fun e w' => e = .returned (.bool b) ∧ w = w' := by
  have h1 := Lib.hid (longAny_index A c ss w hm hs b hb hA)
  clear hb hA hs
  go_enter Try.func8, Try.ntmps8
  go_wp2_with fail
  refine h1.out.mono ?_
  rintro e w1 ⟨i, rfl, hi, rfl⟩
  go_wp2
  go_ret
  exact ⟨by rw [← hi]; rfl, rfl⟩
end Go.Proofs.Yteclnibbgdbjfaa
