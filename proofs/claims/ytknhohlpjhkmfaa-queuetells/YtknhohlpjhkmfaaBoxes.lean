/- A struct of the call's own, cell by cell: any number of cells. -/
import Derived.Test.YtknhohlpjhkmfaaKit
import Derived.Laws.ResultCell
namespace Go.Proofs.Ytknhohlpjhkmfaa
open Go.RowKit

/-- A struct whose cells hold vs and may be written. -/
structure Bx (w : World) (g : Nat) (vs : List Value) : Prop where
  c : ∀ k (h : k < vs.length), w.cell? ⟨g, k, none⟩ = some vs[k]
  f : ∀ k, k < vs.length → w.frozen? ⟨g, k, none⟩ = false
theorem Bx.kept {w w' : World} {g : Nat} {vs : List Value} {row : Option Nat} (h : Bx w g vs) (hg : w.grownBy w' row) (hne : some g ≠ row) : Bx w' g vs := by
  refine ⟨fun k hk => ?_, fun k hk => ?_⟩
  · exact (hg.cell_far ⟨g, k, none⟩ (World.block_lt_of_cell? _ _ (h.c k hk)) hne).trans (h.c k hk)
  · exact (hg.frozen_far ⟨g, k, none⟩ (World.block_lt_of_cell? _ _ (h.c k hk)) hne).trans (h.f k hk)
theorem Bx.below {w w' : World} {g : Nat} {vs : List Value} (h : Bx w g vs) (hb : Below w.heap.size w w') : Bx w' g vs :=
  h.kept (row := none) ⟨hb.os, hb.tape, hb.output, hb.size, fun k hk _ => hb.block k hk⟩ (by simp)
theorem Bx.alloc {w : World} {g : Nat} {vs : List Value} (h : Bx w g vs) (o : Obj) : Bx (w.alloc o) g vs := h.below ((Below.refl _ _).alloc (Nat.le_refl _) o)
theorem Bx.drewN {w : World} {g : Nat} {vs : List Value} (h : Bx w g vs) (m : Nat) : Bx (w.drewN m) g vs := ⟨h.c, h.f⟩
theorem Bx.new (w : World) (g : Nat) (hg : g = w.heap.size) (cs : Array Value) (vs : List Value) (t : TypeId) (hc : cs = vs.toArray) : Bx (w.alloc (.cells cs t)) g vs := by
  subst hg; subst hc
  refine ⟨fun k hk => ?_, fun k hk => by simp⟩
  rw [World.cell?_alloc_new]
  simp [hk]
theorem Bx.set {w : World} {g : Nat} {vs : List Value} (h : Bx w g vs) (j : Nat) (v : Value) : Bx (w.setCell ⟨g, j, none⟩ v) g (vs.set j v) := by
  refine ⟨fun k hk => ?_, fun k hk => ?_⟩
  · rw [List.length_set] at hk
    by_cases e : j = k
    · subst e
      rw [List.getElem_set_self]
      exact World.cell?_setCell_same w ⟨g, j, none⟩ v (h.c j hk)
    · rw [List.getElem_set_ne e]
      exact (World.cell?_setCell_other w ⟨g, j, none⟩ ⟨g, k, none⟩ v (by first | (simp; done) | (simp; omega))).trans (h.c k hk)
  · rw [List.length_set] at hk
    rw [World.frozen?_setCell]
    exact h.f k hk
theorem Bx.lt {w : World} {g : Nat} {v : Value} {vs : List Value} (h : Bx w g (v :: vs)) : g < w.heap.size := World.block_lt_of_cell? _ _ (h.c 0 (by simp))
theorem Bx.get4 {w : World} {g : Nat} {a b c d : Value} (h : Bx w g [a, b, c, d]) :
    (w.cell? ⟨g, 0, none⟩ = some a ∧ w.cell? ⟨g, 1, none⟩ = some b ∧ w.cell? ⟨g, 2, none⟩ = some c ∧ w.cell? ⟨g, 3, none⟩ = some d) ∧
    (w.frozen? ⟨g, 0, none⟩ = false ∧ w.frozen? ⟨g, 1, none⟩ = false ∧ w.frozen? ⟨g, 2, none⟩ = false ∧ w.frozen? ⟨g, 3, none⟩ = false) :=
  ⟨⟨h.c 0 (by simp), h.c 1 (by simp), h.c 2 (by simp), h.c 3 (by simp)⟩, ⟨h.f 0 (by simp), h.f 1 (by simp), h.f 2 (by simp), h.f 3 (by simp)⟩⟩
/-- All four cells written anew. -/
theorem Bx.set4 {w : World} {g : Nat} {a b c d : Value} (h : Bx w g [a, b, c, d]) (x y z u : Value) :
    Bx ((((w.setCell ⟨g, 0, none⟩ x).setCell ⟨g, 1, none⟩ y).setCell ⟨g, 2, none⟩ z).setCell ⟨g, 3, none⟩ u) g [x, y, z, u] := (((h.set 0 x).set 1 y).set 2 z).set 3 u
theorem below_set4 {B : Nat} {w w' : World} (hb : Below B w w') {g : Nat} (hg : B ≤ g) (x y z u : Value) :
    Below B w ((((w'.setCell ⟨g, 0, none⟩ x).setCell ⟨g, 1, none⟩ y).setCell ⟨g, 2, none⟩ z).setCell ⟨g, 3, none⟩ u) :=
  (((hb.setCell (p := ⟨g, 0, none⟩) hg x).setCell (p := ⟨g, 1, none⟩) hg y).setCell (p := ⟨g, 2, none⟩) hg z).setCell (p := ⟨g, 3, none⟩) hg u
end Go.Proofs.Ytknhohlpjhkmfaa
