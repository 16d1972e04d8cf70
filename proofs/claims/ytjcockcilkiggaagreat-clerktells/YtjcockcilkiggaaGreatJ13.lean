/- Package head: First and Next. They write nothing that was there. -/
import Derived.Test.YtjcockcilkiggaaGreatJ12
namespace Go.Proofs.YtjcockcilkiggaaGreat
set_option maxRecDepth 100000
open Go.RowKit

set_option maxHeartbeats 1000000 in
theorem headFirst_no (rt : Nat) (tm : Int) (w : World) (r : Int) (hr : hfault (0, rt, 0, tm) = r) (h0 : r ≠ 0) :
    Calls Tryz.prog 16 #[.int .u64 (rt : Int), .int .i64 tm] w fun e w' => e = .returned (.tuple #[.agg #[.int .i64 0, .int .u64 0, .int .u64 0, .int .i64 0], .int .i64 r]) ∧ Below w.heap.size w w' := by
  have hC := fun w => Lib.hid (headCheck 0 rt 0 tm w r hr)
  have c1 : (r == 0) = false := beq_eq_false_iff_ne.2 h0
  have hz0 := Bx.new w _ rfl _ [.int .i64 0, .int .u64 0, .int .u64 0, .int .i64 0] 45 rfl
  have hy0 := Bx.new (w.alloc (.cells #[.int .i64 0, .int .u64 0, .int .u64 0, .int .i64 0] 45)) (w.heap.size + 1) (by simp) _ [.int .i64 0, .int .u64 (rt : Int), .int .u64 0, .int .i64 tm] 45 rfl
  have hz1 := hz0.alloc (.cells #[.int .i64 0, .int .u64 (rt : Int), .int .u64 0, .int .i64 tm] 45)
  have hb0 : Below w.heap.size w ((w.alloc (.cells #[.int .i64 0, .int .u64 0, .int .u64 0, .int .i64 0] 45)).alloc (.cells #[.int .i64 0, .int .u64 (rt : Int), .int .u64 0, .int .i64 tm] 45)) := ((Below.refl _ _).alloc (Nat.le_refl _) _).alloc (by simp) _
  clear hz0 hr h0
  go_enter Tryz.func16, Tryz.ntmps16
  go_wp2_with fail
  refine (hC _).out.mono ?_
  rintro e w1 ⟨rfl, hb1⟩
  have hz2 := hz1.below hb1
  have hy2 := hy0.below hb1
  have hb01 := below_chain hb0 hb1
  obtain ⟨⟨y0, y1, y2, y3⟩, _⟩ := hy2.get4
  clear hz1 hy0 hb0 hb1 hy2 hC
  obtain ⟨⟨z0, z1, z2, z3⟩, ⟨e0, e1, e2, e3⟩⟩ := hz2.get4
  have hz9 := hz2.set4 (.int .i64 0) (.int .u64 0) (.int .u64 0) (.int .i64 0)
  have hb9 := below_set4 hb01 (Nat.le_refl w.heap.size) (.int .i64 0) (.int .u64 0) (.int .u64 0) (.int .i64 0)
  clear hz2 hb01
  go_wp2
  generalize ((((w1.setCell ⟨w.heap.size, 0, none⟩ (.int .i64 0)).setCell ⟨w.heap.size, 1, none⟩ (.int .u64 0)).setCell ⟨w.heap.size, 2, none⟩ (.int .u64 0)).setCell ⟨w.heap.size, 3, none⟩ (.int .i64 0)) = w9 at *
  obtain ⟨⟨r0, r1, r2, r3⟩, _⟩ := hz9.get4
  refine bodyPost_ret (v := .tuple #[.agg #[.int .i64 0, .int .u64 0, .int .u64 0, .int .i64 0], .int .i64 r]) ?_ rfl ⟨rfl, hb9⟩
  rw [results_cell_tmp rfl]
  go_simp

set_option maxHeartbeats 1000000 in
theorem headFirst_yes (rt : Nat) (tm : Int) (w : World) (h : hfault (0, rt, 0, tm) = 0) :
    Calls Tryz.prog 16 #[.int .u64 (rt : Int), .int .i64 tm] w fun e w' => e = .returned (.tuple #[.agg #[.int .i64 0, .int .u64 (rt : Int), .int .u64 0, .int .i64 tm], .int .i64 0]) ∧ Below w.heap.size w w' := by
  have hC := fun w => Lib.hid (headCheck 0 rt 0 tm w 0 h)
  have hz0 := Bx.new w _ rfl _ [.int .i64 0, .int .u64 0, .int .u64 0, .int .i64 0] 45 rfl
  have hy0 := Bx.new (w.alloc (.cells #[.int .i64 0, .int .u64 0, .int .u64 0, .int .i64 0] 45)) (w.heap.size + 1) (by simp) _ [.int .i64 0, .int .u64 (rt : Int), .int .u64 0, .int .i64 tm] 45 rfl
  have hz1 := hz0.alloc (.cells #[.int .i64 0, .int .u64 (rt : Int), .int .u64 0, .int .i64 tm] 45)
  have hb0 : Below w.heap.size w ((w.alloc (.cells #[.int .i64 0, .int .u64 0, .int .u64 0, .int .i64 0] 45)).alloc (.cells #[.int .i64 0, .int .u64 (rt : Int), .int .u64 0, .int .i64 tm] 45)) := ((Below.refl _ _).alloc (Nat.le_refl _) _).alloc (by simp) _
  clear hz0 h
  go_enter Tryz.func16, Tryz.ntmps16
  go_wp2_with fail
  refine (hC _).out.mono ?_
  rintro e w1 ⟨rfl, hb1⟩
  have hz2 := hz1.below hb1
  have hy2 := hy0.below hb1
  have hb01 := below_chain hb0 hb1
  obtain ⟨⟨y0, y1, y2, y3⟩, _⟩ := hy2.get4
  clear hz1 hy0 hb0 hb1 hy2 hC
  obtain ⟨⟨z0, z1, z2, z3⟩, ⟨e0, e1, e2, e3⟩⟩ := hz2.get4
  have hz9 := hz2.set4 (.int .i64 0) (.int .u64 (rt : Int)) (.int .u64 0) (.int .i64 tm)
  have hb9 := below_set4 hb01 (Nat.le_refl w.heap.size) (.int .i64 0) (.int .u64 (rt : Int)) (.int .u64 0) (.int .i64 tm)
  clear hz2 hb01
  go_wp2
  generalize ((((w1.setCell ⟨w.heap.size, 0, none⟩ (.int .i64 0)).setCell ⟨w.heap.size, 1, none⟩ (.int .u64 (rt : Int))).setCell ⟨w.heap.size, 2, none⟩ (.int .u64 0)).setCell ⟨w.heap.size, 3, none⟩ (.int .i64 tm)) = w9 at *
  obtain ⟨⟨r0, r1, r2, r3⟩, _⟩ := hz9.get4
  refine bodyPost_ret (v := .tuple #[.agg #[.int .i64 0, .int .u64 (rt : Int), .int .u64 0, .int .i64 tm], .int .i64 0]) ?_ rfl ⟨rfl, hb9⟩
  rw [results_cell_tmp rfl]
  go_simp

set_option maxHeartbeats 1000000 in
theorem headNext_fault (ep : Int) (rt pv : Nat) (tm : Int) (nr : Nat) (at' : Int) (w : World) (r : Int) (hr : hfault (ep, rt, pv, tm) = r) (h0 : r ≠ 0) :
    Calls Tryz.prog 71 #[.agg #[.int .i64 ep, .int .u64 (rt : Int), .int .u64 (pv : Int), .int .i64 tm], .int .u64 (nr : Int), .int .i64 at'] w fun e w' => e = .returned (.tuple #[.agg #[.int .i64 0, .int .u64 0, .int .u64 0, .int .i64 0], .int .i64 r]) ∧ Below w.heap.size w w' := by
  have hM := fun w => Lib.hid (headMark_no ep rt pv tm w r hr h0)
  have c1 : (r == 0) = false := beq_eq_false_iff_ne.2 h0
  have hx0 := Bx.new w _ rfl _ [.int .i64 ep, .int .u64 (rt : Int), .int .u64 (pv : Int), .int .i64 tm] 45 rfl
  have hz0 := Bx.new (w.alloc (.cells #[.int .i64 ep, .int .u64 (rt : Int), .int .u64 (pv : Int), .int .i64 tm] 45)) (w.heap.size + 1) (by simp) _ [.int .i64 0, .int .u64 0, .int .u64 0, .int .i64 0] 45 rfl
  have hx1 := hx0.alloc (.cells #[.int .i64 0, .int .u64 0, .int .u64 0, .int .i64 0] 45)
  have hb0 : Below w.heap.size w ((w.alloc (.cells #[.int .i64 ep, .int .u64 (rt : Int), .int .u64 (pv : Int), .int .i64 tm] 45)).alloc (.cells #[.int .i64 0, .int .u64 0, .int .u64 0, .int .i64 0] 45)) := ((Below.refl _ _).alloc (Nat.le_refl _) _).alloc (by simp) _
  clear hx0 hr h0
  go_enter Tryz.func71, Tryz.ntmps71
  go_wp2_with fail
  refine (hM _).out.mono ?_
  rintro e w1 ⟨rfl, hb1⟩
  have hz2 := hz0.below hb1
  have hx2 := hx1.below hb1
  have hb01 := below_chain hb0 hb1
  obtain ⟨⟨x0, x1, x2, x3⟩, _⟩ := hx2.get4
  clear hz0 hx1 hb0 hb1 hx2 hM
  obtain ⟨⟨z0, z1, z2, z3⟩, ⟨e0, e1, e2, e3⟩⟩ := hz2.get4
  have hz9 := hz2.set4 (.int .i64 0) (.int .u64 0) (.int .u64 0) (.int .i64 0)
  have hb9 := below_set4 hb01 (Nat.le_succ w.heap.size) (.int .i64 0) (.int .u64 0) (.int .u64 0) (.int .i64 0)
  clear hz2 hb01
  go_wp2
  generalize ((((w1.setCell ⟨w.heap.size + 1, 0, none⟩ (.int .i64 0)).setCell ⟨w.heap.size + 1, 1, none⟩ (.int .u64 0)).setCell ⟨w.heap.size + 1, 2, none⟩ (.int .u64 0)).setCell ⟨w.heap.size + 1, 3, none⟩ (.int .i64 0)) = w9 at *
  obtain ⟨⟨r0, r1, r2, r3⟩, _⟩ := hz9.get4
  refine bodyPost_ret (v := .tuple #[.agg #[.int .i64 0, .int .u64 0, .int .u64 0, .int .i64 0], .int .i64 r]) ?_ rfl ⟨rfl, hb9⟩
  rw [results_cell_tmp rfl]
  go_simp

set_option maxHeartbeats 1000000 in
theorem headNext_full (ep : Int) (rt pv : Nat) (tm : Int) (nr : Nat) (at' : Int) (w : World) (h : HGood (ep, rt, pv, tm)) (he : ep = 1000000) :
    Calls Tryz.prog 71 #[.agg #[.int .i64 ep, .int .u64 (rt : Int), .int .u64 (pv : Int), .int .i64 tm], .int .u64 (nr : Int), .int .i64 at'] w fun e w' => e = .returned (.tuple #[.agg #[.int .i64 0, .int .u64 0, .int .u64 0, .int .i64 0], .int .i64 7]) ∧ Below w.heap.size w w' := by
  have hM := fun w => Lib.hid (headMark_yes ep rt pv tm w h _ rfl)
  generalize hmark (ep, rt, pv, tm) = m at *
  have c1 : (ep == (1000000 : Int)) = true := beq_iff_eq.2 he
  have hx0 := Bx.new w _ rfl _ [.int .i64 ep, .int .u64 (rt : Int), .int .u64 (pv : Int), .int .i64 tm] 45 rfl
  have hz0 := Bx.new (w.alloc (.cells #[.int .i64 ep, .int .u64 (rt : Int), .int .u64 (pv : Int), .int .i64 tm] 45)) (w.heap.size + 1) (by simp) _ [.int .i64 0, .int .u64 0, .int .u64 0, .int .i64 0] 45 rfl
  have hx1 := hx0.alloc (.cells #[.int .i64 0, .int .u64 0, .int .u64 0, .int .i64 0] 45)
  have hb0 : Below w.heap.size w ((w.alloc (.cells #[.int .i64 ep, .int .u64 (rt : Int), .int .u64 (pv : Int), .int .i64 tm] 45)).alloc (.cells #[.int .i64 0, .int .u64 0, .int .u64 0, .int .i64 0] 45)) := ((Below.refl _ _).alloc (Nat.le_refl _) _).alloc (by simp) _
  clear hx0 h he
  go_enter Tryz.func71, Tryz.ntmps71
  go_wp2_with fail
  refine (hM _).out.mono ?_
  rintro e w1 ⟨rfl, hb1⟩
  have hz2 := hz0.below hb1
  have hx2 := hx1.below hb1
  have hb01 := below_chain hb0 hb1
  obtain ⟨⟨x0, x1, x2, x3⟩, _⟩ := hx2.get4
  clear hz0 hx1 hb0 hb1 hx2 hM
  obtain ⟨⟨z0, z1, z2, z3⟩, ⟨e0, e1, e2, e3⟩⟩ := hz2.get4
  have hz9 := hz2.set4 (.int .i64 0) (.int .u64 0) (.int .u64 0) (.int .i64 0)
  have hb9 := below_set4 hb01 (Nat.le_succ w.heap.size) (.int .i64 0) (.int .u64 0) (.int .u64 0) (.int .i64 0)
  clear hz2 hb01
  go_wp2
  generalize ((((w1.setCell ⟨w.heap.size + 1, 0, none⟩ (.int .i64 0)).setCell ⟨w.heap.size + 1, 1, none⟩ (.int .u64 0)).setCell ⟨w.heap.size + 1, 2, none⟩ (.int .u64 0)).setCell ⟨w.heap.size + 1, 3, none⟩ (.int .i64 0)) = w9 at *
  obtain ⟨⟨r0, r1, r2, r3⟩, _⟩ := hz9.get4
  refine bodyPost_ret (v := .tuple #[.agg #[.int .i64 0, .int .u64 0, .int .u64 0, .int .i64 0], .int .i64 7]) ?_ rfl ⟨rfl, hb9⟩
  rw [results_cell_tmp rfl]
  go_simp

set_option maxHeartbeats 1000000 in
theorem headNext_root (ep : Int) (rt pv : Nat) (tm : Int) (nr : Nat) (at' : Int) (w : World) (h : HGood (ep, rt, pv, tm)) (he : ep ≠ 1000000) (hn : 2305843009213693951 ≤ nr) :
    Calls Tryz.prog 71 #[.agg #[.int .i64 ep, .int .u64 (rt : Int), .int .u64 (pv : Int), .int .i64 tm], .int .u64 (nr : Int), .int .i64 at'] w fun e w' => e = .returned (.tuple #[.agg #[.int .i64 0, .int .u64 0, .int .u64 0, .int .i64 0], .int .i64 4]) ∧ Below w.heap.size w w' := by
  have hM := fun w => Lib.hid (headMark_yes ep rt pv tm w h _ rfl)
  generalize hmark (ep, rt, pv, tm) = m at *
  have c1 : (ep == (1000000 : Int)) = false := beq_eq_false_iff_ne.2 he
  have c2 : decide ((2305843009213693951 : Int) ≤ (nr : Int)) = true := decide_eq_true (by omega)
  have hx0 := Bx.new w _ rfl _ [.int .i64 ep, .int .u64 (rt : Int), .int .u64 (pv : Int), .int .i64 tm] 45 rfl
  have hz0 := Bx.new (w.alloc (.cells #[.int .i64 ep, .int .u64 (rt : Int), .int .u64 (pv : Int), .int .i64 tm] 45)) (w.heap.size + 1) (by simp) _ [.int .i64 0, .int .u64 0, .int .u64 0, .int .i64 0] 45 rfl
  have hx1 := hx0.alloc (.cells #[.int .i64 0, .int .u64 0, .int .u64 0, .int .i64 0] 45)
  have hb0 : Below w.heap.size w ((w.alloc (.cells #[.int .i64 ep, .int .u64 (rt : Int), .int .u64 (pv : Int), .int .i64 tm] 45)).alloc (.cells #[.int .i64 0, .int .u64 0, .int .u64 0, .int .i64 0] 45)) := ((Below.refl _ _).alloc (Nat.le_refl _) _).alloc (by simp) _
  clear hx0 h he hn
  go_enter Tryz.func71, Tryz.ntmps71
  go_wp2_with fail
  refine (hM _).out.mono ?_
  rintro e w1 ⟨rfl, hb1⟩
  have hz2 := hz0.below hb1
  have hx2 := hx1.below hb1
  have hb01 := below_chain hb0 hb1
  obtain ⟨⟨x0, x1, x2, x3⟩, _⟩ := hx2.get4
  clear hz0 hx1 hb0 hb1 hx2 hM
  obtain ⟨⟨z0, z1, z2, z3⟩, ⟨e0, e1, e2, e3⟩⟩ := hz2.get4
  have hz9 := hz2.set4 (.int .i64 0) (.int .u64 0) (.int .u64 0) (.int .i64 0)
  have hb9 := below_set4 hb01 (Nat.le_succ w.heap.size) (.int .i64 0) (.int .u64 0) (.int .u64 0) (.int .i64 0)
  clear hz2 hb01
  go_wp2
  generalize ((((w1.setCell ⟨w.heap.size + 1, 0, none⟩ (.int .i64 0)).setCell ⟨w.heap.size + 1, 1, none⟩ (.int .u64 0)).setCell ⟨w.heap.size + 1, 2, none⟩ (.int .u64 0)).setCell ⟨w.heap.size + 1, 3, none⟩ (.int .i64 0)) = w9 at *
  obtain ⟨⟨r0, r1, r2, r3⟩, _⟩ := hz9.get4
  refine bodyPost_ret (v := .tuple #[.agg #[.int .i64 0, .int .u64 0, .int .u64 0, .int .i64 0], .int .i64 4]) ?_ rfl ⟨rfl, hb9⟩
  rw [results_cell_tmp rfl]
  go_simp

set_option maxHeartbeats 1000000 in
theorem headNext_at (ep : Int) (rt pv : Nat) (tm : Int) (nr : Nat) (at' : Int) (w : World) (h : HGood (ep, rt, pv, tm)) (he : ep ≠ 1000000) (hn : nr < 2305843009213693951) (ht : ¬ (tm ≤ at' ∧ at' ≤ 1000000000)) :
    Calls Tryz.prog 71 #[.agg #[.int .i64 ep, .int .u64 (rt : Int), .int .u64 (pv : Int), .int .i64 tm], .int .u64 (nr : Int), .int .i64 at'] w fun e w' => e = .returned (.tuple #[.agg #[.int .i64 0, .int .u64 0, .int .u64 0, .int .i64 0], .int .i64 4]) ∧ Below w.heap.size w w' := by
  have hM := fun w => Lib.hid (headMark_yes ep rt pv tm w h _ rfl)
  generalize hmark (ep, rt, pv, tm) = m at *
  have c1 : (ep == (1000000 : Int)) = false := beq_eq_false_iff_ne.2 he
  have c2 : decide ((2305843009213693951 : Int) ≤ (nr : Int)) = false := decide_eq_false (by omega)
  have hW := fun w => Lib.hid (headWithin at' tm 1000000000 w false (within_false ht))
  have hx0 := Bx.new w _ rfl _ [.int .i64 ep, .int .u64 (rt : Int), .int .u64 (pv : Int), .int .i64 tm] 45 rfl
  have hz0 := Bx.new (w.alloc (.cells #[.int .i64 ep, .int .u64 (rt : Int), .int .u64 (pv : Int), .int .i64 tm] 45)) (w.heap.size + 1) (by simp) _ [.int .i64 0, .int .u64 0, .int .u64 0, .int .i64 0] 45 rfl
  have hx1 := hx0.alloc (.cells #[.int .i64 0, .int .u64 0, .int .u64 0, .int .i64 0] 45)
  have hb0 : Below w.heap.size w ((w.alloc (.cells #[.int .i64 ep, .int .u64 (rt : Int), .int .u64 (pv : Int), .int .i64 tm] 45)).alloc (.cells #[.int .i64 0, .int .u64 0, .int .u64 0, .int .i64 0] 45)) := ((Below.refl _ _).alloc (Nat.le_refl _) _).alloc (by simp) _
  clear hx0 h he hn ht
  go_enter Tryz.func71, Tryz.ntmps71
  go_wp2_with fail
  refine (hM _).out.mono ?_
  rintro e w1 ⟨rfl, hb1⟩
  have hz2 := hz0.below hb1
  have hx2 := hx1.below hb1
  have hb01 := below_chain hb0 hb1
  obtain ⟨⟨x0, x1, x2, x3⟩, _⟩ := hx2.get4
  clear hz0 hx1 hb0 hb1 hx2 hM
  obtain ⟨⟨z0, z1, z2, z3⟩, ⟨e0, e1, e2, e3⟩⟩ := hz2.get4
  have hz9 := hz2.set4 (.int .i64 0) (.int .u64 0) (.int .u64 0) (.int .i64 0)
  have hb9 := below_set4 hb01 (Nat.le_succ w.heap.size) (.int .i64 0) (.int .u64 0) (.int .u64 0) (.int .i64 0)
  clear hz2 hb01
  go_wp2_with fail
  refine (hW _).out.mono ?_
  rintro e w2 ⟨rfl, rfl⟩
  go_wp2
  generalize ((((w1.setCell ⟨w.heap.size + 1, 0, none⟩ (.int .i64 0)).setCell ⟨w.heap.size + 1, 1, none⟩ (.int .u64 0)).setCell ⟨w.heap.size + 1, 2, none⟩ (.int .u64 0)).setCell ⟨w.heap.size + 1, 3, none⟩ (.int .i64 0)) = w9 at *
  obtain ⟨⟨r0, r1, r2, r3⟩, _⟩ := hz9.get4
  refine bodyPost_ret (v := .tuple #[.agg #[.int .i64 0, .int .u64 0, .int .u64 0, .int .i64 0], .int .i64 4]) ?_ rfl ⟨rfl, hb9⟩
  rw [results_cell_tmp rfl]
  go_simp

set_option maxHeartbeats 1000000 in
theorem headNext_yes (ep : Int) (rt pv : Nat) (tm : Int) (nr : Nat) (at' : Int) (w : World) (h : HGood (ep, rt, pv, tm)) (he : ep ≠ 1000000) (hn : nr < 2305843009213693951) (ht : tm ≤ at' ∧ at' ≤ 1000000000) (m : Nat) (hm : hmark (ep, rt, pv, tm) = m) :
    Calls Tryz.prog 71 #[.agg #[.int .i64 ep, .int .u64 (rt : Int), .int .u64 (pv : Int), .int .i64 tm], .int .u64 (nr : Int), .int .i64 at'] w fun e w' => e = .returned (.tuple #[.agg #[.int .i64 (ep + 1), .int .u64 (nr : Int), .int .u64 (m : Int), .int .i64 at'], .int .i64 0]) ∧ Below w.heap.size w w' := by
  have hM := fun w => Lib.hid (headMark_yes ep rt pv tm w h m hm)
  have hep : IntKind.i64.wrap (ep + 1) = ep + 1 := by
    have h1 := h.e0
    have h2 := h.e1
    dsimp only at h1 h2
    rw [IntKind.wrap_i64]
    omega
  have c1 : (ep == (1000000 : Int)) = false := beq_eq_false_iff_ne.2 he
  have c2 : decide ((2305843009213693951 : Int) ≤ (nr : Int)) = false := decide_eq_false (by omega)
  have hW := fun w => Lib.hid (headWithin at' tm 1000000000 w true (within_true ht.1 ht.2))
  have hx0 := Bx.new w _ rfl _ [.int .i64 ep, .int .u64 (rt : Int), .int .u64 (pv : Int), .int .i64 tm] 45 rfl
  have hz0 := Bx.new (w.alloc (.cells #[.int .i64 ep, .int .u64 (rt : Int), .int .u64 (pv : Int), .int .i64 tm] 45)) (w.heap.size + 1) (by simp) _ [.int .i64 0, .int .u64 0, .int .u64 0, .int .i64 0] 45 rfl
  have hx1 := hx0.alloc (.cells #[.int .i64 0, .int .u64 0, .int .u64 0, .int .i64 0] 45)
  have hb0 : Below w.heap.size w ((w.alloc (.cells #[.int .i64 ep, .int .u64 (rt : Int), .int .u64 (pv : Int), .int .i64 tm] 45)).alloc (.cells #[.int .i64 0, .int .u64 0, .int .u64 0, .int .i64 0] 45)) := ((Below.refl _ _).alloc (Nat.le_refl _) _).alloc (by simp) _
  clear hx0 h he hn ht hm
  go_enter Tryz.func71, Tryz.ntmps71
  go_wp2_with fail
  refine (hM _).out.mono ?_
  rintro e w1 ⟨rfl, hb1⟩
  have hz2 := hz0.below hb1
  have hx2 := hx1.below hb1
  have hb01 := below_chain hb0 hb1
  obtain ⟨⟨x0, x1, x2, x3⟩, _⟩ := hx2.get4
  clear hz0 hx1 hb0 hb1 hx2 hM
  obtain ⟨⟨z0, z1, z2, z3⟩, ⟨e0, e1, e2, e3⟩⟩ := hz2.get4
  have hz9 := hz2.set4 (.int .i64 (ep + 1)) (.int .u64 (nr : Int)) (.int .u64 (m : Int)) (.int .i64 at')
  have hb9 := below_set4 hb01 (Nat.le_succ w.heap.size) (.int .i64 (ep + 1)) (.int .u64 (nr : Int)) (.int .u64 (m : Int)) (.int .i64 at')
  clear hz2 hb01
  go_wp2_with fail
  refine (hW _).out.mono ?_
  rintro e w2 ⟨rfl, rfl⟩
  go_wp2
  generalize ((((w1.setCell ⟨w.heap.size + 1, 0, none⟩ (.int .i64 (ep + 1))).setCell ⟨w.heap.size + 1, 1, none⟩ (.int .u64 (nr : Int))).setCell ⟨w.heap.size + 1, 2, none⟩ (.int .u64 (m : Int))).setCell ⟨w.heap.size + 1, 3, none⟩ (.int .i64 at')) = w9 at *
  obtain ⟨⟨r0, r1, r2, r3⟩, _⟩ := hz9.get4
  refine bodyPost_ret (v := .tuple #[.agg #[.int .i64 (ep + 1), .int .u64 (nr : Int), .int .u64 (m : Int), .int .i64 at'], .int .i64 0]) ?_ rfl ⟨rfl, hb9⟩
  rw [results_cell_tmp rfl]
  go_simp
end Go.Proofs.YtjcockcilkiggaaGreat
/- Package head: Next, in two cases. -/
namespace Go.Proofs.YtjcockcilkiggaaGreat
set_option maxRecDepth 100000
open Go.RowKit

/-- The error of Next. -/
def nextErr (h : Hd) (nr : Nat) (at' : Int) : Int :=
  if hfault h = 0 then (if h.1 = 1000000 then 7 else if 2305843009213693951 ≤ nr then 4 else if h.2.2.2 ≤ at' ∧ at' ≤ 1000000000 then 0 else 4) else hfault h
structure NextOk (h : Hd) (nr : Nat) (at' : Int) : Prop where
  g : HGood h
  e : h.1 ≠ 1000000
  r : nr < 2305843009213693951
  t : h.2.2.2 ≤ at' ∧ at' ≤ 1000000000
theorem nextErr_ok (h : Hd) (nr : Nat) (at' : Int) : nextErr h nr at' = 0 ↔ NextOk h nr at' := by
  unfold nextErr
  constructor
  · intro e
    by_cases h0 : hfault h = 0
    · rw [if_pos h0] at e
      by_cases h1 : h.1 = 1000000
      · rw [if_pos h1] at e; exact absurd e (by decide)
      rw [if_neg h1] at e
      by_cases h2 : 2305843009213693951 ≤ nr
      · rw [if_pos h2] at e; exact absurd e (by decide)
      rw [if_neg h2] at e
      by_cases h3 : h.2.2.2 ≤ at' ∧ at' ≤ 1000000000
      · exact ⟨(hfault_ok _).1 h0, h1, by omega, h3⟩
      · rw [if_neg h3] at e; exact absurd e (by decide)
    · rw [if_neg h0] at e; exact absurd e h0
  · rintro ⟨g, e, r, t⟩
    rw [if_pos ((hfault_ok _).2 g), if_neg e, if_neg (by omega), if_pos t]
/-- The successor of a head. -/
def nextOf (h : Hd) (nr : Nat) (at' : Int) : Hd := (h.1 + 1, nr, hmark h, at')
theorem nextOf_good {h : Hd} {nr : Nat} {at' : Int} (k : NextOk h nr at') : hfault (nextOf h nr at') = 0 := by
  obtain ⟨⟨e0, e1, r, p, t0, t1, z⟩, e, r', t⟩ := k
  refine (hfault_ok _).2 ⟨?_, ?_, r', Hash.of_lt _, ?_, ?_, ?_⟩ <;> simp only [nextOf] <;> omega

theorem headNext_no (ep : Int) (rt pv : Nat) (tm : Int) (nr : Nat) (at' : Int) (w : World) (r : Int) (hr : nextErr (ep, rt, pv, tm) nr at' = r) (h0 : r ≠ 0) :
    Calls Tryz.prog 71 #[.agg #[.int .i64 ep, .int .u64 (rt : Int), .int .u64 (pv : Int), .int .i64 tm], .int .u64 (nr : Int), .int .i64 at'] w fun e w' => e = .returned (.tuple #[.agg #[.int .i64 0, .int .u64 0, .int .u64 0, .int .i64 0], .int .i64 r]) ∧ Below w.heap.size w w' := by
  unfold nextErr at hr
  by_cases k0 : hfault (ep, rt, pv, tm) = 0
  · rw [if_pos k0] at hr
    have kg := (hfault_ok _).1 k0
    by_cases k1 : ep = 1000000
    · rw [if_pos k1] at hr; subst hr; exact headNext_full ep rt pv tm nr at' w kg k1
    rw [if_neg k1] at hr
    by_cases k2 : 2305843009213693951 ≤ nr
    · rw [if_pos k2] at hr; subst hr; exact headNext_root ep rt pv tm nr at' w kg k1 k2
    rw [if_neg k2] at hr
    by_cases k3 : tm ≤ at' ∧ at' ≤ 1000000000
    · rw [if_pos k3] at hr; exact absurd hr.symm h0
    · rw [if_neg k3] at hr; subst hr; exact headNext_at ep rt pv tm nr at' w kg k1 (by omega) k3
  · rw [if_neg k0] at hr
    exact headNext_fault ep rt pv tm nr at' w r hr h0
theorem headNext_ok (ep : Int) (rt pv : Nat) (tm : Int) (nr : Nat) (at' : Int) (w : World) (k : NextOk (ep, rt, pv, tm) nr at') (m : Nat) (hm : hmark (ep, rt, pv, tm) = m) (q : Int) (hq : ep + 1 = q) :
    Calls Tryz.prog 71 #[.agg #[.int .i64 ep, .int .u64 (rt : Int), .int .u64 (pv : Int), .int .i64 tm], .int .u64 (nr : Int), .int .i64 at'] w fun e w' => e = .returned (.tuple #[.agg #[.int .i64 q, .int .u64 (nr : Int), .int .u64 (m : Int), .int .i64 at'], .int .i64 0]) ∧ Below w.heap.size w w' := by
  subst hq
  exact headNext_yes ep rt pv tm nr at' w k.g k.e k.r k.t m hm
theorem headCheck_next (ep : Int) (rt pv : Nat) (tm : Int) (nr : Nat) (at' : Int) (w : World) (k : NextOk (ep, rt, pv, tm) nr at') (m : Nat) (hm : hmark (ep, rt, pv, tm) = m) (q : Int) (hq : ep + 1 = q) :
    Calls Tryz.prog 44 #[.agg #[.int .i64 q, .int .u64 (nr : Int), .int .u64 (m : Int), .int .i64 at']] w fun e w' => e = .returned (.int .i64 0) ∧ Below w.heap.size w w' := by
  subst hq
  subst hm
  exact headCheck (ep + 1) nr (hmark (ep, rt, pv, tm)) at' w 0 (nextOf_good k)
end Go.Proofs.YtjcockcilkiggaaGreat
