/- Package head: First and Next. They write nothing that was there. -/
import Derived.Test.YthkhafgcpmoalaaHead
namespace Go.Proofs.Ythkhafgcpmoalaa
set_option maxRecDepth 100000
open Go.RowKit

set_option maxHeartbeats 1000000 in
theorem headNext_fault (ep : Int) (rt pv : Nat) (tm : Int) (nr : Nat) (at' : Int) (w : World) (r : Int) (hr : hfault (ep, rt, pv, tm) = r) (h0 : r ≠ 0) :
    Calls Try.prog 30 #[.agg #[.int .i64 ep, .int .u64 (rt : Int), .int .u64 (pv : Int), .int .i64 tm], .int .u64 (nr : Int), .int .i64 at'] w fun e w' => e = .returned (.tuple #[.agg #[.int .i64 0, .int .u64 0, .int .u64 0, .int .i64 0], .int .i64 r]) ∧ Below w.heap.size w w' := by
  have hM := fun w => Lib.hid (headMark_no ep rt pv tm w r hr h0)
  have c1 : (r == 0) = false := beq_eq_false_iff_ne.2 h0
  have hx0 := Bx.new w _ rfl _ [.int .i64 ep, .int .u64 (rt : Int), .int .u64 (pv : Int), .int .i64 tm] 25 rfl
  have hz0 := Bx.new (w.alloc (.cells #[.int .i64 ep, .int .u64 (rt : Int), .int .u64 (pv : Int), .int .i64 tm] 25)) (w.heap.size + 1) (by simp) _ [.int .i64 0, .int .u64 0, .int .u64 0, .int .i64 0] 25 rfl
  have hx1 := hx0.alloc (.cells #[.int .i64 0, .int .u64 0, .int .u64 0, .int .i64 0] 25)
  have hb0 : Below w.heap.size w ((w.alloc (.cells #[.int .i64 ep, .int .u64 (rt : Int), .int .u64 (pv : Int), .int .i64 tm] 25)).alloc (.cells #[.int .i64 0, .int .u64 0, .int .u64 0, .int .i64 0] 25)) := ((Below.refl _ _).alloc (Nat.le_refl _) _).alloc (by simp) _
  clear hx0 hr h0
  go_enter Try.func30, Try.ntmps30
  go_wp2_with fail
  refine (hM _).out.mono ?_
  rintro e w1 ⟨rfl, hb1⟩
  have hz2 := hz0.below hb1
  have hx2 := hx1.below hb1
  have hb01 := below_chain hb0 hb1
  obtain ⟨⟨x0, x1, x2, x3⟩, _⟩ := hx2.get4
  clear hz0 hx1 hb0 hb1 hx2 hM
  obtain ⟨⟨z0, z1, z2, z3⟩, ⟨e0, e1, e2, e3⟩⟩ := hz2.get4
  have hz9 := hz2.set4 (.int .i64 0) (.int .u64 0) (.int .u64 0) (.int .i64 0)
  have hb9 := below_set4 hb01 (Nat.le_succ w.heap.size) (.int .i64 0) (.int .u64 0) (.int .u64 0) (.int .i64 0)
  clear hz2 hb01
  go_wp2
  generalize ((((w1.setCell ⟨w.heap.size + 1, 0, none⟩ (.int .i64 0)).setCell ⟨w.heap.size + 1, 1, none⟩ (.int .u64 0)).setCell ⟨w.heap.size + 1, 2, none⟩ (.int .u64 0)).setCell ⟨w.heap.size + 1, 3, none⟩ (.int .i64 0)) = w9 at *
  obtain ⟨⟨r0, r1, r2, r3⟩, _⟩ := hz9.get4
  refine bodyPost_ret (v := .tuple #[.agg #[.int .i64 0, .int .u64 0, .int .u64 0, .int .i64 0], .int .i64 r]) ?_ rfl ⟨rfl, hb9⟩
  rw [results_cell_tmp rfl]
  go_simp

set_option maxHeartbeats 1000000 in
theorem headNext_full (ep : Int) (rt pv : Nat) (tm : Int) (nr : Nat) (at' : Int) (w : World) (h : HGood (ep, rt, pv, tm)) (he : ep = 1000000) :
    Calls Try.prog 30 #[.agg #[.int .i64 ep, .int .u64 (rt : Int), .int .u64 (pv : Int), .int .i64 tm], .int .u64 (nr : Int), .int .i64 at'] w fun e w' => e = .returned (.tuple #[.agg #[.int .i64 0, .int .u64 0, .int .u64 0, .int .i64 0], .int .i64 7]) ∧ Below w.heap.size w w' := by
  have hM := fun w => Lib.hid (headMark_yes ep rt pv tm w h _ rfl)
  generalize hmark (ep, rt, pv, tm) = m at *
  have c1 : (ep == (1000000 : Int)) = true := beq_iff_eq.2 he
  have hx0 := Bx.new w _ rfl _ [.int .i64 ep, .int .u64 (rt : Int), .int .u64 (pv : Int), .int .i64 tm] 25 rfl
  have hz0 := Bx.new (w.alloc (.cells #[.int .i64 ep, .int .u64 (rt : Int), .int .u64 (pv : Int), .int .i64 tm] 25)) (w.heap.size + 1) (by simp) _ [.int .i64 0, .int .u64 0, .int .u64 0, .int .i64 0] 25 rfl
  have hx1 := hx0.alloc (.cells #[.int .i64 0, .int .u64 0, .int .u64 0, .int .i64 0] 25)
  have hb0 : Below w.heap.size w ((w.alloc (.cells #[.int .i64 ep, .int .u64 (rt : Int), .int .u64 (pv : Int), .int .i64 tm] 25)).alloc (.cells #[.int .i64 0, .int .u64 0, .int .u64 0, .int .i64 0] 25)) := ((Below.refl _ _).alloc (Nat.le_refl _) _).alloc (by simp) _
  clear hx0 h he
  go_enter Try.func30, Try.ntmps30
  go_wp2_with fail
  refine (hM _).out.mono ?_
  rintro e w1 ⟨rfl, hb1⟩
  have hz2 := hz0.below hb1
  have hx2 := hx1.below hb1
  have hb01 := below_chain hb0 hb1
  obtain ⟨⟨x0, x1, x2, x3⟩, _⟩ := hx2.get4
  clear hz0 hx1 hb0 hb1 hx2 hM
  obtain ⟨⟨z0, z1, z2, z3⟩, ⟨e0, e1, e2, e3⟩⟩ := hz2.get4
  have hz9 := hz2.set4 (.int .i64 0) (.int .u64 0) (.int .u64 0) (.int .i64 0)
  have hb9 := below_set4 hb01 (Nat.le_succ w.heap.size) (.int .i64 0) (.int .u64 0) (.int .u64 0) (.int .i64 0)
  clear hz2 hb01
  go_wp2
  generalize ((((w1.setCell ⟨w.heap.size + 1, 0, none⟩ (.int .i64 0)).setCell ⟨w.heap.size + 1, 1, none⟩ (.int .u64 0)).setCell ⟨w.heap.size + 1, 2, none⟩ (.int .u64 0)).setCell ⟨w.heap.size + 1, 3, none⟩ (.int .i64 0)) = w9 at *
  obtain ⟨⟨r0, r1, r2, r3⟩, _⟩ := hz9.get4
  refine bodyPost_ret (v := .tuple #[.agg #[.int .i64 0, .int .u64 0, .int .u64 0, .int .i64 0], .int .i64 7]) ?_ rfl ⟨rfl, hb9⟩
  rw [results_cell_tmp rfl]
  go_simp

set_option maxHeartbeats 1000000 in
theorem headNext_root (ep : Int) (rt pv : Nat) (tm : Int) (nr : Nat) (at' : Int) (w : World) (h : HGood (ep, rt, pv, tm)) (he : ep ≠ 1000000) (hn : 2305843009213693951 ≤ nr) :
    Calls Try.prog 30 #[.agg #[.int .i64 ep, .int .u64 (rt : Int), .int .u64 (pv : Int), .int .i64 tm], .int .u64 (nr : Int), .int .i64 at'] w fun e w' => e = .returned (.tuple #[.agg #[.int .i64 0, .int .u64 0, .int .u64 0, .int .i64 0], .int .i64 4]) ∧ Below w.heap.size w w' := by
  have hM := fun w => Lib.hid (headMark_yes ep rt pv tm w h _ rfl)
  generalize hmark (ep, rt, pv, tm) = m at *
  have c1 : (ep == (1000000 : Int)) = false := beq_eq_false_iff_ne.2 he
  have c2 : decide ((2305843009213693951 : Int) ≤ (nr : Int)) = true := decide_eq_true (by omega)
  have hx0 := Bx.new w _ rfl _ [.int .i64 ep, .int .u64 (rt : Int), .int .u64 (pv : Int), .int .i64 tm] 25 rfl
  have hz0 := Bx.new (w.alloc (.cells #[.int .i64 ep, .int .u64 (rt : Int), .int .u64 (pv : Int), .int .i64 tm] 25)) (w.heap.size + 1) (by simp) _ [.int .i64 0, .int .u64 0, .int .u64 0, .int .i64 0] 25 rfl
  have hx1 := hx0.alloc (.cells #[.int .i64 0, .int .u64 0, .int .u64 0, .int .i64 0] 25)
  have hb0 : Below w.heap.size w ((w.alloc (.cells #[.int .i64 ep, .int .u64 (rt : Int), .int .u64 (pv : Int), .int .i64 tm] 25)).alloc (.cells #[.int .i64 0, .int .u64 0, .int .u64 0, .int .i64 0] 25)) := ((Below.refl _ _).alloc (Nat.le_refl _) _).alloc (by simp) _
  clear hx0 h he hn
  go_enter Try.func30, Try.ntmps30
  go_wp2_with fail
  refine (hM _).out.mono ?_
  rintro e w1 ⟨rfl, hb1⟩
  have hz2 := hz0.below hb1
  have hx2 := hx1.below hb1
  have hb01 := below_chain hb0 hb1
  obtain ⟨⟨x0, x1, x2, x3⟩, _⟩ := hx2.get4
  clear hz0 hx1 hb0 hb1 hx2 hM
  obtain ⟨⟨z0, z1, z2, z3⟩, ⟨e0, e1, e2, e3⟩⟩ := hz2.get4
  have hz9 := hz2.set4 (.int .i64 0) (.int .u64 0) (.int .u64 0) (.int .i64 0)
  have hb9 := below_set4 hb01 (Nat.le_succ w.heap.size) (.int .i64 0) (.int .u64 0) (.int .u64 0) (.int .i64 0)
  clear hz2 hb01
  go_wp2
  generalize ((((w1.setCell ⟨w.heap.size + 1, 0, none⟩ (.int .i64 0)).setCell ⟨w.heap.size + 1, 1, none⟩ (.int .u64 0)).setCell ⟨w.heap.size + 1, 2, none⟩ (.int .u64 0)).setCell ⟨w.heap.size + 1, 3, none⟩ (.int .i64 0)) = w9 at *
  obtain ⟨⟨r0, r1, r2, r3⟩, _⟩ := hz9.get4
  refine bodyPost_ret (v := .tuple #[.agg #[.int .i64 0, .int .u64 0, .int .u64 0, .int .i64 0], .int .i64 4]) ?_ rfl ⟨rfl, hb9⟩
  rw [results_cell_tmp rfl]
  go_simp

set_option maxHeartbeats 1000000 in
theorem headNext_at (ep : Int) (rt pv : Nat) (tm : Int) (nr : Nat) (at' : Int) (w : World) (h : HGood (ep, rt, pv, tm)) (he : ep ≠ 1000000) (hn : nr < 2305843009213693951) (ht : ¬ (tm ≤ at' ∧ at' ≤ 1000000000)) :
    Calls Try.prog 30 #[.agg #[.int .i64 ep, .int .u64 (rt : Int), .int .u64 (pv : Int), .int .i64 tm], .int .u64 (nr : Int), .int .i64 at'] w fun e w' => e = .returned (.tuple #[.agg #[.int .i64 0, .int .u64 0, .int .u64 0, .int .i64 0], .int .i64 4]) ∧ Below w.heap.size w w' := by
  have hM := fun w => Lib.hid (headMark_yes ep rt pv tm w h _ rfl)
  generalize hmark (ep, rt, pv, tm) = m at *
  have c1 : (ep == (1000000 : Int)) = false := beq_eq_false_iff_ne.2 he
  have c2 : decide ((2305843009213693951 : Int) ≤ (nr : Int)) = false := decide_eq_false (by omega)
  have hW := fun w => Lib.hid (headWithin at' tm 1000000000 w false (within_false ht))
  have hx0 := Bx.new w _ rfl _ [.int .i64 ep, .int .u64 (rt : Int), .int .u64 (pv : Int), .int .i64 tm] 25 rfl
  have hz0 := Bx.new (w.alloc (.cells #[.int .i64 ep, .int .u64 (rt : Int), .int .u64 (pv : Int), .int .i64 tm] 25)) (w.heap.size + 1) (by simp) _ [.int .i64 0, .int .u64 0, .int .u64 0, .int .i64 0] 25 rfl
  have hx1 := hx0.alloc (.cells #[.int .i64 0, .int .u64 0, .int .u64 0, .int .i64 0] 25)
  have hb0 : Below w.heap.size w ((w.alloc (.cells #[.int .i64 ep, .int .u64 (rt : Int), .int .u64 (pv : Int), .int .i64 tm] 25)).alloc (.cells #[.int .i64 0, .int .u64 0, .int .u64 0, .int .i64 0] 25)) := ((Below.refl _ _).alloc (Nat.le_refl _) _).alloc (by simp) _
  clear hx0 h he hn ht
  go_enter Try.func30, Try.ntmps30
  go_wp2_with fail
  refine (hM _).out.mono ?_
  rintro e w1 ⟨rfl, hb1⟩
  have hz2 := hz0.below hb1
  have hx2 := hx1.below hb1
  have hb01 := below_chain hb0 hb1
  obtain ⟨⟨x0, x1, x2, x3⟩, _⟩ := hx2.get4
  clear hz0 hx1 hb0 hb1 hx2 hM
  obtain ⟨⟨z0, z1, z2, z3⟩, ⟨e0, e1, e2, e3⟩⟩ := hz2.get4
  have hz9 := hz2.set4 (.int .i64 0) (.int .u64 0) (.int .u64 0) (.int .i64 0)
  have hb9 := below_set4 hb01 (Nat.le_succ w.heap.size) (.int .i64 0) (.int .u64 0) (.int .u64 0) (.int .i64 0)
  clear hz2 hb01
  go_wp2_with fail
  refine (hW _).out.mono ?_
  rintro e w2 ⟨rfl, rfl⟩
  go_wp2
  generalize ((((w1.setCell ⟨w.heap.size + 1, 0, none⟩ (.int .i64 0)).setCell ⟨w.heap.size + 1, 1, none⟩ (.int .u64 0)).setCell ⟨w.heap.size + 1, 2, none⟩ (.int .u64 0)).setCell ⟨w.heap.size + 1, 3, none⟩ (.int .i64 0)) = w9 at *
  obtain ⟨⟨r0, r1, r2, r3⟩, _⟩ := hz9.get4
  refine bodyPost_ret (v := .tuple #[.agg #[.int .i64 0, .int .u64 0, .int .u64 0, .int .i64 0], .int .i64 4]) ?_ rfl ⟨rfl, hb9⟩
  rw [results_cell_tmp rfl]
  go_simp

set_option maxHeartbeats 1000000 in
theorem headNext_yes (ep : Int) (rt pv : Nat) (tm : Int) (nr : Nat) (at' : Int) (w : World) (h : HGood (ep, rt, pv, tm)) (he : ep ≠ 1000000) (hn : nr < 2305843009213693951) (ht : tm ≤ at' ∧ at' ≤ 1000000000) (m : Nat) (hm : hmark (ep, rt, pv, tm) = m) :
    Calls Try.prog 30 #[.agg #[.int .i64 ep, .int .u64 (rt : Int), .int .u64 (pv : Int), .int .i64 tm], .int .u64 (nr : Int), .int .i64 at'] w fun e w' => e = .returned (.tuple #[.agg #[.int .i64 (ep + 1), .int .u64 (nr : Int), .int .u64 (m : Int), .int .i64 at'], .int .i64 0]) ∧ Below w.heap.size w w' := by
  have hM := fun w => Lib.hid (headMark_yes ep rt pv tm w h m hm)
  have hep : IntKind.i64.wrap (ep + 1) = ep + 1 := by
    have h1 := h.e0
    have h2 := h.e1
    dsimp only at h1 h2
    rw [IntKind.wrap_i64]
    omega
  have c1 : (ep == (1000000 : Int)) = false := beq_eq_false_iff_ne.2 he
  have c2 : decide ((2305843009213693951 : Int) ≤ (nr : Int)) = false := decide_eq_false (by omega)
  have hW := fun w => Lib.hid (headWithin at' tm 1000000000 w true (within_true ht.1 ht.2))
  have hx0 := Bx.new w _ rfl _ [.int .i64 ep, .int .u64 (rt : Int), .int .u64 (pv : Int), .int .i64 tm] 25 rfl
  have hz0 := Bx.new (w.alloc (.cells #[.int .i64 ep, .int .u64 (rt : Int), .int .u64 (pv : Int), .int .i64 tm] 25)) (w.heap.size + 1) (by simp) _ [.int .i64 0, .int .u64 0, .int .u64 0, .int .i64 0] 25 rfl
  have hx1 := hx0.alloc (.cells #[.int .i64 0, .int .u64 0, .int .u64 0, .int .i64 0] 25)
  have hb0 : Below w.heap.size w ((w.alloc (.cells #[.int .i64 ep, .int .u64 (rt : Int), .int .u64 (pv : Int), .int .i64 tm] 25)).alloc (.cells #[.int .i64 0, .int .u64 0, .int .u64 0, .int .i64 0] 25)) := ((Below.refl _ _).alloc (Nat.le_refl _) _).alloc (by simp) _
  clear hx0 h he hn ht hm
  go_enter Try.func30, Try.ntmps30
  go_wp2_with fail
  refine (hM _).out.mono ?_
  rintro e w1 ⟨rfl, hb1⟩
  have hz2 := hz0.below hb1
  have hx2 := hx1.below hb1
  have hb01 := below_chain hb0 hb1
  obtain ⟨⟨x0, x1, x2, x3⟩, _⟩ := hx2.get4
  clear hz0 hx1 hb0 hb1 hx2 hM
  obtain ⟨⟨z0, z1, z2, z3⟩, ⟨e0, e1, e2, e3⟩⟩ := hz2.get4
  have hz9 := hz2.set4 (.int .i64 (ep + 1)) (.int .u64 (nr : Int)) (.int .u64 (m : Int)) (.int .i64 at')
  have hb9 := below_set4 hb01 (Nat.le_succ w.heap.size) (.int .i64 (ep + 1)) (.int .u64 (nr : Int)) (.int .u64 (m : Int)) (.int .i64 at')
  clear hz2 hb01
  go_wp2_with fail
  refine (hW _).out.mono ?_
  rintro e w2 ⟨rfl, rfl⟩
  go_wp2
  generalize ((((w1.setCell ⟨w.heap.size + 1, 0, none⟩ (.int .i64 (ep + 1))).setCell ⟨w.heap.size + 1, 1, none⟩ (.int .u64 (nr : Int))).setCell ⟨w.heap.size + 1, 2, none⟩ (.int .u64 (m : Int))).setCell ⟨w.heap.size + 1, 3, none⟩ (.int .i64 at')) = w9 at *
  obtain ⟨⟨r0, r1, r2, r3⟩, _⟩ := hz9.get4
  refine bodyPost_ret (v := .tuple #[.agg #[.int .i64 (ep + 1), .int .u64 (nr : Int), .int .u64 (m : Int), .int .i64 at'], .int .i64 0]) ?_ rfl ⟨rfl, hb9⟩
  rw [results_cell_tmp rfl]
  go_simp
end Go.Proofs.Ythkhafgcpmoalaa
