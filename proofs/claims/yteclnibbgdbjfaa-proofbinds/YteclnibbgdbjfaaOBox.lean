/- A struct of three cells that is being filled, and functions whose result lies in a cell. -/
import Derived.Test.YteclnibbgdbjfaaKit
import Derived.Test.YteclnibbgdbjfaaMapS
import Derived.Laws.ResultCell
namespace Go.Proofs.Yteclnibbgdbjfaa
set_option maxRecDepth 100000
open Go.RowKit

/-- A struct of three cells that is being filled. -/
structure OBox (w : World) (g : Nat) (v0 v1 v2 : Value) : Prop where
  o0 : w.cell? ⟨g, 0, none⟩ = some v0
  o1 : w.cell? ⟨g, 1, none⟩ = some v1
  o2 : w.cell? ⟨g, 2, none⟩ = some v2
  f0 : w.frozen? ⟨g, 0, none⟩ = false
  f1 : w.frozen? ⟨g, 1, none⟩ = false
  f2 : w.frozen? ⟨g, 2, none⟩ = false
theorem OBox.kept {w w' : World} {g : Nat} {v0 v1 v2 : Value} {row : Option Nat} (h : OBox w g v0 v1 v2) (hg : w.grownBy w' row) (hne : some g ≠ row) : OBox w' g v0 v1 v2 := by
  have hlt := World.block_lt_of_cell? _ _ h.o0
  exact ⟨(hg.cell_far ⟨g, 0, none⟩ hlt hne).trans h.o0, (hg.cell_far ⟨g, 1, none⟩ hlt hne).trans h.o1, (hg.cell_far ⟨g, 2, none⟩ hlt hne).trans h.o2, (hg.frozen_far ⟨g, 0, none⟩ hlt hne).trans h.f0, (hg.frozen_far ⟨g, 1, none⟩ hlt hne).trans h.f1, (hg.frozen_far ⟨g, 2, none⟩ hlt hne).trans h.f2⟩
theorem OBox.below {w w' : World} {g : Nat} {v0 v1 v2 : Value} (h : OBox w g v0 v1 v2) (hb : Below w.heap.size w w') : OBox w' g v0 v1 v2 := h.kept (grown_below hb none) (by simp)
theorem OBox.alloc {w : World} {g : Nat} {v0 v1 v2 : Value} (h : OBox w g v0 v1 v2) (o : Obj) : OBox (w.alloc o) g v0 v1 v2 := h.below ((Below.refl _ _).alloc (Nat.le_refl _) o)
theorem OBox.new (w : World) (v0 v1 v2 : Value) (t : TypeId) : OBox (w.alloc (.cells #[v0, v1, v2] t)) w.heap.size v0 v1 v2 :=
  ⟨by rw [World.cell?_alloc_new]; rfl, by rw [World.cell?_alloc_new]; rfl, by rw [World.cell?_alloc_new]; rfl, by simp, by simp, by simp⟩
theorem OBox.set1 {w : World} {g : Nat} {v0 v1 v2 : Value} (h : OBox w g v0 v1 v2) (v : Value) : OBox (w.setCell ⟨g, 1, none⟩ v) g v0 v v2 :=
  ⟨(World.cell?_setCell_other w ⟨g, 1, none⟩ ⟨g, 0, none⟩ v (by simp)).trans h.o0, World.cell?_setCell_same w ⟨g, 1, none⟩ v h.o1, (World.cell?_setCell_other w ⟨g, 1, none⟩ ⟨g, 2, none⟩ v (by simp)).trans h.o2, by rw [World.frozen?_setCell]; exact h.f0, by rw [World.frozen?_setCell]; exact h.f1, by rw [World.frozen?_setCell]; exact h.f2⟩
theorem OBox.set2 {w : World} {g : Nat} {v0 v1 v2 : Value} (h : OBox w g v0 v1 v2) (v : Value) : OBox (w.setCell ⟨g, 2, none⟩ v) g v0 v1 v :=
  ⟨(World.cell?_setCell_other w ⟨g, 2, none⟩ ⟨g, 0, none⟩ v (by simp)).trans h.o0, (World.cell?_setCell_other w ⟨g, 2, none⟩ ⟨g, 1, none⟩ v (by simp)).trans h.o1, World.cell?_setCell_same w ⟨g, 2, none⟩ v h.o2, by rw [World.frozen?_setCell]; exact h.f0, by rw [World.frozen?_setCell]; exact h.f1, by rw [World.frozen?_setCell]; exact h.f2⟩
theorem OBox.set0 {w : World} {g : Nat} {v0 v1 v2 : Value} (h : OBox w g v0 v1 v2) (v : Value) : OBox (w.setCell ⟨g, 0, none⟩ v) g v v1 v2 :=
  ⟨World.cell?_setCell_same w ⟨g, 0, none⟩ v h.o0, (World.cell?_setCell_other w ⟨g, 0, none⟩ ⟨g, 1, none⟩ v (by simp)).trans h.o1, (World.cell?_setCell_other w ⟨g, 0, none⟩ ⟨g, 2, none⟩ v (by simp)).trans h.o2, by rw [World.frozen?_setCell]; exact h.f0, by rw [World.frozen?_setCell]; exact h.f1, by rw [World.frozen?_setCell]; exact h.f2⟩
/-- A function whose one result lies in a cell. -/
theorem results_cell1 {fn : Func} {p : Tmp} {ty : TypeId} (h : fn.results = #[.cell p ty]) (tmps : Array Value) (P : Program) (w : World) :
    (results fn tmps).run P w = ((asAddr (tmps.getD p undef)).run P w).andThen fun a w₁ => (loadVar ty a).run P w₁ := by
  simp only [results, h]
  simp [Sem.run_bind, Result.andThen]
theorem grown_set (w : World) (a : Addr) (u : Value) : w.grownBy (w.setCell a u) (some a.block) :=
  ⟨rfl, rfl, rfl, by simp [World.setCell], fun k _ hk => Below.heap_setCell _ _ _ k (fun e => hk (by rw [e]))⟩

end Go.Proofs.Yteclnibbgdbjfaa
