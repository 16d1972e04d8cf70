/- Package head: First and Read whatever they are given; the reference's HeadSaid at a valid head. -/
import Derived.Test.YtmlgolnfegaihaaHeadPlain
import Derived.Test.YtmlgolnfegaihaaHeadNexts
import Derived.Test.YtmlgolnfegaihaaHeadLinks
namespace Go.Proofs.Ytmlgolnfegaihaa
set_option maxRecDepth 100000
open Go.RowKit

theorem headFirst_any (rt : Nat) (tm : Int) :
    ∃ (a : Nat) (b g : Int), (∀ w : World, Calls Try.prog 8 #[.int .u64 (rt : Int), .int .i64 tm] w fun e w' => e = .returned (.tuple #[.agg #[.int .i64 0, .int .u64 (a : Int), .int .u64 0, .int .i64 b], .int .i64 g]) ∧ Below w.heap.size w w') ∧
      hfault (0, rt, 0, tm) = g ∧ ((g = 0 ∧ a = rt ∧ b = tm) ∨ (g ≠ 0 ∧ a = 0 ∧ b = 0)) := by
  by_cases h : hfault (0, rt, 0, tm) = 0
  · exact ⟨rt, tm, 0, fun w => headFirst_yes rt tm w h, h, Or.inl ⟨rfl, rfl, rfl⟩⟩
  · exact ⟨0, 0, _, fun w => headFirst_no rt tm w _ rfl h, rfl, Or.inr ⟨h, rfl, rfl⟩⟩
theorem headRead_any (l : Bytes) :
    ∃ (ep : Int) (rt pv : Nat) (tm k : Int), (∀ w : World, Calls Try.prog 10 #[.string (S l)] w fun e w' => e = .returned (.tuple #[.agg #[.int .i64 ep, .int .u64 (rt : Int), .int .u64 (pv : Int), .int .i64 tm], .int .i64 k]) ∧ Below w.heap.size w w') ∧
      ((k = 0 ∧ HRight l ∧ hnums l = (ep, rt, pv, tm)) ∨ (k = 3 ∧ ¬ HRight l ∧ ep = 0 ∧ rt = 0 ∧ pv = 0 ∧ tm = 0)) := by
  by_cases h : HRight l
  · obtain ⟨⟨fp, st, qv, um⟩, hx⟩ : ∃ x, hnums l = x := ⟨_, rfl⟩
    exact ⟨fp, st, qv, um, 0, fun w => headRead_it l w h fp st qv um hx, Or.inl ⟨rfl, h, hx⟩⟩
  · exact ⟨0, 0, 0, 0, 3, fun w => headRead_no l w h, Or.inr ⟨rfl, h, rfl, rfl, rfl, rfl⟩⟩
theorem refHSaid_good (ep : Int) (rt pv : Nat) (tm : Int) (w : World) (h : HGood (ep, rt, pv, tm)) (s : Bytes) (hs : hsaid (ep, rt, pv, tm) = s) :
    Calls Try.prog 13 #[.agg #[.int .i64 ep, .int .u64 (rt : Int), .int .u64 (pv : Int), .int .i64 tm]] w fun e w' => e = .returned (.string (S s)) ∧ Below w.heap.size w w' := by
  obtain ⟨e0, e1, r, p, t0, t1, -⟩ := h
  dsimp only at e0 e1 r p t0 t1
  obtain ⟨n, rfl⟩ := Int.eq_ofNat_of_zero_le e0
  obtain ⟨m, rfl⟩ := Int.eq_ofNat_of_zero_le t0
  exact refHSaid n rt pv m w (by omega) (by omega) (by omega) (by omega) s hs
theorem Bx.set4_far {w : World} {g h : Nat} {vs : List Value} (k : Bx w g vs) (ne : g ≠ h) (x y z u : Value) :
    Bx ((((w.setCell ⟨h, 0, none⟩ x).setCell ⟨h, 1, none⟩ y).setCell ⟨h, 2, none⟩ z).setCell ⟨h, 3, none⟩ u) g vs :=
  have n : some g ≠ some h := fun e => ne (Option.some.inj e)
  (((k.kept (cell_grown _ h 0 x) n).kept (cell_grown _ h 1 y) n).kept (cell_grown _ h 2 z) n).kept (cell_grown _ h 3 u) n
end Go.Proofs.Ytmlgolnfegaihaa
