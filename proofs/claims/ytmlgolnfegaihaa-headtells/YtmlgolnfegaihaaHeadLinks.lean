/- The reference: HeadMark returns the hash of a head, Links whether one head is the next of another one. They write nothing that was there. -/
import Derived.Test.YtmlgolnfegaihaaHeads
namespace Go.Proofs.Ytmlgolnfegaihaa
set_option maxRecDepth 100000
open Go.RowKit


set_option maxHeartbeats 400000 in
theorem refHMark (ep : Int) (rt pv : Nat) (tm : Int) (w : World) (h : HGood (ep, rt, pv, tm)) (x : Nat) (hx : hmark (ep, rt, pv, tm) = x) :
    Calls Try.prog 14 #[.agg #[.int .i64 ep, .int .u64 (rt : Int), .int .u64 (pv : Int), .int .i64 tm]] w fun e w' => e = .returned (.int .u64 (x : Int)) ∧ Below w.heap.size w w' := by
  obtain ⟨e0, e1, r, p, t0, t1, -⟩ := h
  dsimp only at e0 e1 r p t0 t1
  obtain ⟨n, rfl⟩ := Int.eq_ofNat_of_zero_le e0
  obtain ⟨m, rfl⟩ := Int.eq_ofNat_of_zero_le t0
  have hS := fun w => Lib.hid (refHSaid n rt pv m w (by omega) (by omega) (by omega) (by omega) _ rfl)
  have hM := fun w => Lib.hid (refMark (hsaid ((n : Int), rt, pv, (m : Int))) w (hsaid_le _))
  rw [hmark] at hx
  rw [hx] at hM
  generalize hsaid ((n : Int), rt, pv, (m : Int)) = s at *
  obtain ⟨k0, k1, k2, k3⟩ := HBox.new w (n : Int) rt pv (m : Int) 24
  clear e0 e1 r p t0 t1 hx
  go_enter Try.func14, Try.ntmps14
  go_wp2_with fail
  refine (hS _).out.mono ?_
  rintro e w1 ⟨rfl, hb1⟩
  go_wp2_with fail
  refine (hM _).out.mono ?_
  rintro e w2 ⟨rfl, rfl⟩
  go_wp2
  go_ret
  exact ⟨rfl, below_chain ((Below.refl _ _).alloc (Nat.le_refl _) _) hb1⟩

end Go.Proofs.Ytmlgolnfegaihaa
