/- package roll: check returns the error of a list of strings that should be a log; the reference's RollFault too. -/
import Derived.Test.YtlobpjpkldmnaaaKit
namespace Go.Proofs.Ytlobpjpkldmnaaa
set_option maxRecDepth 100000
open Go.RowKit

def long40 (s : Bytes) : Bool := decide (40 < s.length)
def rfault (l : List Bytes) : Int := if l.length = 0 then 5 else if 40 < l.length then 2 else if l.any long40 = true then 2 else 0
/-- A log. -/
structure RGood (l : List Bytes) : Prop where
  pos : 1 ≤ l.length
  le : l.length ≤ 40
  each : ∀ s ∈ l, s.length ≤ 40
theorem rfault_ok (l : List Bytes) : rfault l = 0 ↔ RGood l := by
  unfold rfault
  constructor
  · intro h
    split at h
    · cases h
    · split at h
      · cases h
      · split at h
        · cases h
        · rename_i h0 h1 h2
          refine ⟨by omega, by omega, fun s hs => ?_⟩
          rw [List.any_eq_true] at h2
          rcases Nat.lt_or_ge 40 s.length with h3 | h3
          · exact absurd ⟨s, hs, decide_eq_true h3⟩ h2
          · exact h3
  · rintro ⟨h0, h1, h2⟩
    rw [if_neg (by omega), if_neg (by omega), if_neg]
    rw [List.any_eq_true]
    rintro ⟨s, hs, h3⟩
    have := of_decide_eq_true h3
    have := h2 s hs
    omega
theorem rfault_cases (l : List Bytes) : rfault l = 0 ∨ rfault l = 2 ∨ rfault l = 5 := by
  unfold rfault
  (repeat' split) <;> simp
theorem RGood.small {l : List Bytes} (h : RGood l) : ∀ s ∈ l, s.length ≤ 40 := h.each
theorem RGood.take {l : List Bytes} (h : RGood l) {m : Nat} (h1 : 1 ≤ m) : RGood (l.take m) := by
  have := h.pos
  have := h.le
  exact ⟨by rw [List.length_take]; omega, by rw [List.length_take]; omega, fun s hs => h.each s (List.mem_of_mem_take hs)⟩

theorem Row.strR {w : World} {A : Option Addr} {ss : List Bytes} (h : Row w A (scells ss)) (k : Nat) (hk : k < ss.length) : ∃ g off, A = some ⟨g, off, none⟩ ∧ w.cell? ⟨g, off + k, none⟩ = some (.string (S ss[k])) := by
  obtain ⟨g, off, e, hc⟩ := h (by rw [scells_length]; omega)
  refine ⟨g, off, e, ?_⟩
  rw [hc k (by rw [scells_length]; exact hk)]
  simp [scells]

set_option maxHeartbeats 800000 in
theorem rollCheck (A : Option Addr) (c : Nat) (l : List Bytes) (w : World) (hm : l.length ≤ maxLen) (hl : ∀ s ∈ l, s.length ≤ maxLen) (hA : Row w A (scells l)) (r : Int) (hr : rfault l = r) :
    Calls Try.prog 25 #[.slice A l.length c] w fun e w' => e = .returned (.int .i64 r) ∧ w = w' := by
  unfold maxLen at hm
  unfold rfault at hr
  by_cases h0 : l.length = 0
  · rw [if_pos h0] at hr
    subst hr
    obtain rfl : l = [] := List.eq_nil_of_length_eq_zero h0
    rw [List.length_nil]
    clear h0 hm hl hA
    go_enter Try.func25, Try.ntmps25
    go_wp2
    go_ret
    exact ⟨rfl, rfl⟩
  · rw [if_neg h0] at hr
    have c0 : ((l.length : Int) == 0) = false := beq_eq_false_iff_ne.2 (by omega)
    by_cases h1 : 40 < l.length
    · rw [if_pos h1] at hr
      subst hr
      have c1 : decide ((40 : Int) < (l.length : Int)) = true := decide_eq_true (by omega)
      clear h0 hl hA h1
      go_enter Try.func25, Try.ntmps25
      go_wp2
      go_ret
      exact ⟨rfl, rfl⟩
    · rw [if_neg h1] at hr
      have HR := Lib.hid hr
      have HL := Lib.hid hl
      have c1 : decide ((40 : Int) < (l.length : Int)) = false := decide_eq_false (by omega)
      clear hr hl
      go_enter Try.func25, Try.ntmps25
      go_wp2
      go_loop [13] (fun i => ∃ k : Nat, k ≤ l.length ∧ i = .int .i64 k ∧ Hid ((l.take k).any long40 = false)) (fun i => l.length - (intOf i).toNat)
      case atStart => exact ⟨0, Nat.zero_le _, rfl, rfl⟩
      case round =>
        obtain ⟨k, hk, rfl, H⟩ := hrel
        clear c0 c1 h0
        by_cases hlt : k < l.length
        · obtain ⟨g, off, rfl, j1⟩ := hA.strR k hlt
          have hi0 : (0 : Int) ≤ (k : Int) := by omega
          have hi1 : (k : Int) < (l.length : Int) := by omega
          have hz : Hid (l[k].length ≤ maxLen) := HL.out _ (List.getElem_mem hlt)
          have HS : Hid ((l.take (k + 1)).any long40 = long40 l[k]) := by
            show (l.take (k + 1)).any long40 = long40 l[k]
            rw [List.take_succ_eq_append_getElem hlt, List.any_append, H.out]
            simp
          have HF : Hid (long40 l[k] = true → r = 2) := by
            show _ → _
            intro h
            rw [← HR.out, if_pos (List.any_eq_true.2 ⟨_, List.getElem_mem hlt, h⟩)]
          generalize l[k] = s at *
          have hs : s.length ≤ 9223372036854775807 := hz.out
          clear hA H HL hz
          by_cases h40 : 40 < s.length
          · have HF' := Lib.hid (HF.out (decide_eq_true h40))
            have c2 : decide ((40 : Int) < (s.length : Int)) = true := decide_eq_true (by omega)
            clear HS HF h40 HR
            go_wp2
            go_ret
            exact ⟨by rw [HF'.out]; rfl, rfl⟩
          · have HS' : Hid ((l.take (k + 1)).any long40 = false) := HS.out.trans (decide_eq_false h40)
            have c2 : decide ((40 : Int) < (s.length : Int)) = false := decide_eq_false (by omega)
            clear HS HF h40 HR
            go_wp2
            go_round
            case rel => exact ⟨k + 1, by omega, by go_num, HS'⟩
            case measure => simp [intOf]; omega
        · obtain rfl : k = l.length := by omega
          have HF : Hid (r = 0) := by
            show r = 0
            have h := H.out
            rw [List.take_length] at h
            rw [← HR.out, if_neg (by rw [h]; simp)]
          clear H HR HL
          go_wp2
          go_ret
          exact ⟨by rw [HF.out]; rfl, rfl⟩

set_option maxHeartbeats 800000 in
theorem refRollFault (A : Option Addr) (c : Nat) (l : List Bytes) (w : World) (hm : l.length ≤ maxLen) (hl : ∀ s ∈ l, s.length ≤ maxLen) (hA : Row w A (scells l)) (r : Int) (hr : rfault l = r) :
    Calls Try.prog 11 #[.slice A l.length c] w fun e w' => e = .returned (.int .i64 r) ∧ w = w' := by
  unfold maxLen at hm
  unfold rfault at hr
  by_cases h0 : l.length = 0
  · rw [if_pos h0] at hr
    subst hr
    obtain rfl : l = [] := List.eq_nil_of_length_eq_zero h0
    rw [List.length_nil]
    clear h0 hm hl hA
    go_enter Try.func11, Try.ntmps11
    go_wp2
    go_ret
    exact ⟨rfl, rfl⟩
  · rw [if_neg h0] at hr
    have c0 : ((l.length : Int) == 0) = false := beq_eq_false_iff_ne.2 (by omega)
    by_cases h1 : 40 < l.length
    · rw [if_pos h1] at hr
      subst hr
      have c1 : decide ((40 : Int) < (l.length : Int)) = true := decide_eq_true (by omega)
      clear h0 hl hA h1
      go_enter Try.func11, Try.ntmps11
      go_wp2
      go_ret
      exact ⟨rfl, rfl⟩
    · rw [if_neg h1] at hr
      have HR := Lib.hid hr
      have HL := Lib.hid hl
      have c1 : decide ((40 : Int) < (l.length : Int)) = false := decide_eq_false (by omega)
      clear hr hl
      go_enter Try.func11, Try.ntmps11
      go_wp2
      go_loop [13] (fun i => ∃ k : Nat, k ≤ l.length ∧ i = .int .i64 k ∧ Hid ((l.take k).any long40 = false)) (fun i => l.length - (intOf i).toNat)
      case atStart => exact ⟨0, Nat.zero_le _, rfl, rfl⟩
      case round =>
        obtain ⟨k, hk, rfl, H⟩ := hrel
        clear c0 c1 h0
        by_cases hlt : k < l.length
        · obtain ⟨g, off, rfl, j1⟩ := hA.strR k hlt
          have hi0 : (0 : Int) ≤ (k : Int) := by omega
          have hi1 : (k : Int) < (l.length : Int) := by omega
          have hz : Hid (l[k].length ≤ maxLen) := HL.out _ (List.getElem_mem hlt)
          have HS : Hid ((l.take (k + 1)).any long40 = long40 l[k]) := by
            show (l.take (k + 1)).any long40 = long40 l[k]
            rw [List.take_succ_eq_append_getElem hlt, List.any_append, H.out]
            simp
          have HF : Hid (long40 l[k] = true → r = 2) := by
            show _ → _
            intro h
            rw [← HR.out, if_pos (List.any_eq_true.2 ⟨_, List.getElem_mem hlt, h⟩)]
          generalize l[k] = s at *
          have hs : s.length ≤ 9223372036854775807 := hz.out
          clear hA H HL hz
          by_cases h40 : 40 < s.length
          · have HF' := Lib.hid (HF.out (decide_eq_true h40))
            have c2 : decide ((40 : Int) < (s.length : Int)) = true := decide_eq_true (by omega)
            clear HS HF h40 HR
            go_wp2
            go_ret
            exact ⟨by rw [HF'.out]; rfl, rfl⟩
          · have HS' : Hid ((l.take (k + 1)).any long40 = false) := HS.out.trans (decide_eq_false h40)
            have c2 : decide ((40 : Int) < (s.length : Int)) = false := decide_eq_false (by omega)
            clear HS HF h40 HR
            go_wp2
            go_round
            case rel => exact ⟨k + 1, by omega, by go_num, HS'⟩
            case measure => simp [intOf]; omega
        · obtain rfl : k = l.length := by omega
          have HF : Hid (r = 0) := by
            show r = 0
            have h := H.out
            rw [List.take_length] at h
            rw [← HR.out, if_neg (by rw [h]; simp)]
          clear H HR HL
          go_wp2
          go_ret
          exact ⟨by rw [HF.out]; rfl, rfl⟩
end Go.Proofs.Ytlobpjpkldmnaaa
