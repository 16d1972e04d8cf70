/- Rows of the call's own, and cells that are kept, in worlds that have only grown. -/
import Derived.Test.YteclnibbgdbjfaaApps
namespace Go.Proofs.Yteclnibbgdbjfaa
open Go.RowKit

theorem own_below {w w' : World} {base n : Nat} {e : TypeId} {v : Value} {xs : List Value} (h : w.ownsRow base e 1 v n xs) (hb : Below w.heap.size w w') : w'.ownsRow base e 1 v n xs :=
  h.kept (row := none) ⟨hb.os, hb.tape, hb.output, hb.size, fun k hk _ => hb.block k hk⟩ (by cases v.ownBlock <;> simp)
theorem str_one (w : World) (s : Bytes) (t : TypeId) : ∀ j u, (scells [s])[j]? = some u → (w.alloc (.cells #[.string (S s)] t)).cell? ((⟨w.heap.size, 0, none⟩ : Addr).add j) = some u :=
  cells_new w w.heap.size (scells [s]) t rfl
theorem kept {w w1 : World} {p : Addr} {v : Value} (hc : w.cell? p = some v) (hb : Below w.heap.size w w1) : w1.cell? p = some v := by
  rw [hb.cell (World.block_lt_of_cell? _ _ hc), hc]
theorem new_cell (w : World) (v : Value) (t : TypeId) : (w.alloc (.cells #[v] t)).cell? ⟨w.heap.size, 0, none⟩ = some v := by
  rw [World.cell?_alloc_new]
  rfl
end Go.Proofs.Yteclnibbgdbjfaa
