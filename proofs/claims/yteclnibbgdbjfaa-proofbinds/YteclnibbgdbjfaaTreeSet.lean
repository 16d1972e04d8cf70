/- package tree: Set returns the book with a name set, Drop the book without a name. They write nothing that was there. -/
import Derived.Test.YteclnibbgdbjfaaTreeCheck
import Derived.Test.YteclnibbgdbjfaaConcatE
import Derived.Deep.Onto
import Derived.Test.YteclnibbgdbjfaaSaid
namespace Go.Proofs.Yteclnibbgdbjfaa
open Go.RowKit

/-- The first error of Set, and of Drop. -/
def setErr (es : List Ent) (n v : Bytes) : Int := if askErr es n = 0 then (if 20 < v.length then 2 else if there n es = false ∧ es.length = 24 then 7 else 0) else askErr es n
def dropErr (es : List Ent) (n : Bytes) : Int := if askErr es n = 0 then (if there n es = true then 0 else 5) else askErr es n
theorem setErr_ok (es : List Ent) (n v : Bytes) : setErr es n v = 0 ↔ Good es ∧ Bin.name n = true ∧ v.length ≤ 20 ∧ (there n es = true ∨ es.length < 24) := by
  unfold setErr
  by_cases h : askErr es n = 0
  · rw [if_pos h]
    obtain ⟨h1, h2⟩ := (askErr_ok es n).1 h
    have hl := h1.len
    by_cases h3 : 20 < v.length
    · rw [if_pos h3]
      exact ⟨fun h => by simp at h, fun h => by have := h.2.2.1; omega⟩
    · rw [if_neg h3]
      by_cases h4 : there n es = false ∧ es.length = 24
      · rw [if_pos h4]
        refine ⟨fun h => by simp at h, fun h => ?_⟩
        rcases h.2.2.2 with h5 | h5
        · rw [h4.1] at h5; cases h5
        · omega
      · rw [if_neg h4]
        refine ⟨fun _ => ⟨h1, h2, by omega, ?_⟩, fun _ => rfl⟩
        cases ht : there n es with
        | true => exact .inl rfl
        | false => exact .inr (by have : es.length ≠ 24 := fun e => h4 ⟨ht, e⟩; omega)
  · rw [if_neg h]
    exact ⟨fun k => absurd k h, fun k => absurd ((askErr_ok es n).2 ⟨k.1, k.2.1⟩) h⟩
theorem dropErr_ok (es : List Ent) (n : Bytes) : dropErr es n = 0 ↔ Good es ∧ Bin.name n = true ∧ there n es = true := by
  unfold dropErr
  by_cases h : askErr es n = 0
  · rw [if_pos h]
    obtain ⟨h1, h2⟩ := (askErr_ok es n).1 h
    cases ht : there n es <;> simp [h1, h2]
  · rw [if_neg h]
    exact ⟨fun k => absurd k h, fun k => absurd ((askErr_ok es n).2 ⟨k.1, k.2.1⟩) h⟩

/-- What Set and Drop leave: a book of their own. -/
def BookGives (T : List Ent) (w : World) (e : Ending) (w' : World) : Prop :=
  ∃ D d, e = .returned (.tuple #[.slice D T.length d, .int .i64 0]) ∧ w'.ownsRow w.heap.size 54 2 (.slice D T.length d) T.length (encells T) ∧ Below w.heap.size w w'

theorem own_capE {w : World} {b : Nat} {e : TypeId} {s n m c : Nat} {A : Option Addr} {xs : List Value} (h : w.ownsRow b e s (.slice A m c) n xs) : n ≤ c := by
  rcases h.2 with ⟨e1, h0⟩ | ⟨g, cap, cur, e1, _, _, hn, _⟩
  · injection e1 with e1 e2 e3
    omega
  · injection e1 with e1 e2 e3
    omega
theorem bookGives_of (T : List Ent) (w w4 w' : World) (D : Option Addr) (d : Nat) (hown : w'.ownsRow w4.heap.size 54 2 (.slice D T.length d) T.length (encells T)) (hb4 : Below w.heap.size w w4) (hb : Below w4.heap.size w4 w') :
    BookGives T w (.returned (.tuple #[.slice D T.length d, .int .i64 0])) w' := ⟨D, d, rfl, hown.mono hb4.size, below_chain hb4 hb⟩

end Go.Proofs.Yteclnibbgdbjfaa
