/- The check that package change is built returns true; Diff and Look, whatever they are given. They write nothing that was there. -/
import Derived.Test.YtmmmolbejfdamaaChangeLook
namespace Go.Proofs.Ytmmmolbejfdamaa
set_option maxRecDepth 100000
open Go.RowKit

theorem good_empty : Good [] := ⟨by simp, fun x hx => by simp at hx, fun x hx => by simp at hx, by simp⟩
theorem look_live (w : World) : Calls Try.prog 9 #[.slice none 0 0, .slice none 0 0] w fun e w' => ∃ A k c, e = .returned (.tuple #[.slice A k c, .int .i64 1, .int .i64 0]) ∧ Below w.heap.size w w' := by
  have h := changeLook_yes none none 0 0 [] [] w good_empty good_empty (Row.nil_ _ _) (Row.nil_ _ _)
  obtain ⟨h1, h2⟩ := visitsAt_same [] [] [] rfl
  rw [h1, h2] at h
  refine h.mono ?_
  rintro e w' ⟨D, d, rfl, _, hb⟩
  exact ⟨D, _, d, rfl, hb⟩
set_option maxHeartbeats 400000 in
theorem changes (w : World) : Calls Try.prog 20 #[] w fun e w' => e = .returned (.bool true) ∧ Below w.heap.size w w' := by
  have h := fun w => Lib.hid (look_live w)
  go_enter Try.func20, Try.ntmps20
  go_wp2_with fail
  refine (h _).out.mono ?_
  rintro e w1 ⟨A, k, c, rfl, hb⟩
  go_wp2
  go_ret
  exact ⟨rfl, hb⟩

/-- What Diff returns, whatever it is given. -/
def diffRes (a b : List Ent) : List Bytes := if diffErr a b = 0 then differ a b else []
def DiffAny (T : List Bytes) (r : Int) (w : World) (e : Ending) (w' : World) : Prop := ∃ D d, e = .returned (.tuple #[.slice D T.length d, .int .i64 r]) ∧ Row w' D (scells T) ∧ Below w.heap.size w w'
theorem changeDiff (A B : Option Addr) (c d : Nat) (a b : List Ent) (w : World) (hma : a.length ≤ maxLen) (hea : ∀ x ∈ a, x.1.length ≤ maxLen ∧ x.2.length ≤ maxLen) (hmb : b.length ≤ maxLen) (heb : ∀ x ∈ b, x.1.length ≤ maxLen ∧ x.2.length ≤ maxLen)
    (hA : Row w A (encells a)) (hB : Row w B (encells b)) (T : List Bytes) (hT : diffRes a b = T) (r : Int) (hr : diffErr a b = r) :
    Calls Try.prog 8 #[.slice A a.length c, .slice B b.length d] w (DiffAny T r w) := by
  subst hT; subst hr
  unfold diffRes
  by_cases h : diffErr a b = 0
  · rw [if_pos h, h]
    obtain ⟨ha, hb⟩ := (diffErr_ok a b).1 h
    exact changeDiff_yes A B c d a b w ha hb hA hB
  · rw [if_neg h]
    refine (changeDiff_no A B c d a b w hma hea hmb heb hA hB _ rfl h).mono ?_
    rintro e w' ⟨rfl, hb⟩
    exact ⟨none, 0, rfl, Row.nil_ _ _, hb⟩
def lookRes (a b : List Ent) : List Bytes := if diffErr a b = 0 then foundAt a b [] else []
def lookNum (a b : List Ent) : Nat := if diffErr a b = 0 then visitsAt a b [] else 0
def LookAny (T : List Bytes) (n : Nat) (r : Int) (w : World) (e : Ending) (w' : World) : Prop := ∃ D d, e = .returned (.tuple #[.slice D T.length d, .int .i64 (n : Int), .int .i64 r]) ∧ Row w' D (scells T) ∧ Below w.heap.size w w'
theorem changeLook (A B : Option Addr) (c d : Nat) (a b : List Ent) (w : World) (hma : a.length ≤ maxLen) (hea : ∀ x ∈ a, x.1.length ≤ maxLen ∧ x.2.length ≤ maxLen) (hmb : b.length ≤ maxLen) (heb : ∀ x ∈ b, x.1.length ≤ maxLen ∧ x.2.length ≤ maxLen)
    (hA : Row w A (encells a)) (hB : Row w B (encells b)) (T : List Bytes) (hT : lookRes a b = T) (n : Nat) (hn : lookNum a b = n) (r : Int) (hr : diffErr a b = r) :
    Calls Try.prog 9 #[.slice A a.length c, .slice B b.length d] w (LookAny T n r w) := by
  subst hT; subst hr; subst hn
  unfold lookRes lookNum
  by_cases h : diffErr a b = 0
  · rw [if_pos h, if_pos h, h]
    obtain ⟨ha, hb⟩ := (diffErr_ok a b).1 h
    exact changeLook_yes A B c d a b w ha hb hA hB
  · rw [if_neg h, if_neg h]
    refine (changeLook_no A B c d a b w hma hea hmb heb hA hB _ rfl h).mono ?_
    rintro e w' ⟨rfl, hb⟩
    exact ⟨none, 0, rfl, Row.nil_ _ _, hb⟩
end Go.Proofs.Ytmmmolbejfdamaa
