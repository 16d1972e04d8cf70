/- Package head: First and Read whatever they are given; the reference's HeadSaid at a valid head. -/
import Derived.Test.YthkhafgcpmoalaaHeadPlain
import Derived.Test.YthkhafgcpmoalaaHeadNexts
import Derived.Test.YthkhafgcpmoalaaHeadLinks
namespace Go.Proofs.Ythkhafgcpmoalaa
set_option maxRecDepth 100000
open Go.RowKit

theorem refHSaid_good (ep : Int) (rt pv : Nat) (tm : Int) (w : World) (h : HGood (ep, rt, pv, tm)) (s : Bytes) (hs : hsaid (ep, rt, pv, tm) = s) :
    Calls Try.prog 23 #[.agg #[.int .i64 ep, .int .u64 (rt : Int), .int .u64 (pv : Int), .int .i64 tm]] w fun e w' => e = .returned (.string (S s)) ∧ Below w.heap.size w w' := by
  obtain ⟨e0, e1, r, p, t0, t1, -⟩ := h
  dsimp only at e0 e1 r p t0 t1
  obtain ⟨n, rfl⟩ := Int.eq_ofNat_of_zero_le e0
  obtain ⟨m, rfl⟩ := Int.eq_ofNat_of_zero_le t0
  exact refHSaid n rt pv m w (by omega) (by omega) (by omega) (by omega) s hs
theorem Bx.set4_far {w : World} {g h : Nat} {vs : List Value} (k : Bx w g vs) (ne : g ≠ h) (x y z u : Value) :
    Bx ((((w.setCell ⟨h, 0, none⟩ x).setCell ⟨h, 1, none⟩ y).setCell ⟨h, 2, none⟩ z).setCell ⟨h, 3, none⟩ u) g vs :=
  have n : some g ≠ some h := fun e => ne (Option.some.inj e)
  (((k.kept (cell_grown _ h 0 x) n).kept (cell_grown _ h 1 y) n).kept (cell_grown _ h 2 z) n).kept (cell_grown _ h 3 u) n
end Go.Proofs.Ythkhafgcpmoalaa
