/- The law HeadNext returns true: the successor of a head is valid and has the next epoch; two different heads with the same successor have preimages that are a collision; where Next returns an error the head is empty. Nothing that was there is written. No conditions. -/
import Derived.Test.YtmlgolnfegaihaaLaw
import Derived.Test.YtmlgolnfegaihaaHeadArgs
import Derived.Test.YtmlgolnfegaihaaHeadPlain
import Derived.Test.YtmlgolnfegaihaaHeadsLive
import Derived.Test.YtmlgolnfegaihaaHeadNexts
import Derived.Test.YtmlgolnfegaihaaAlike
import Derived.Test.YtmlgolnfegaihaaGood
namespace Go.Proofs.Ytmlgolnfegaihaa
set_option maxRecDepth 100000
open Go.ChangeShapes Go.WideShapes Go.ChangeAt Go.RowKit

theorem hsaid_inj {h g : Hd} (hh : HGood h) (hg : HGood g) (e : hsaid h = hsaid g) : h = g := by
  rw [← (hright_said hh).2, e, (hright_said hg).2]

set_option maxHeartbeats 2000000 in
theorem headNext_a (ep : Int) (rt pv : Nat) (tm : Int) (fp : Int) (st qv : Nat) (um : Int) (nr : Nat) (at' : Int) (w : World) (r : Int) (hr : nextErr (ep, rt, pv, tm) nr at' = r) (h0 : r ≠ 0) :
    Calls Try.prog 5 #[.agg #[.int .i64 ep, .int .u64 (rt : Int), .int .u64 (pv : Int), .int .i64 tm], .agg #[.int .i64 fp, .int .u64 (st : Int), .int .u64 (qv : Int), .int .i64 um], .int .u64 (nr : Int), .int .i64 at'] w fun e w' => e = .returned (.bool true) ∧ Below w.heap.size w w' := by
  have hL := fun w => Lib.hid (heads w)
  have hN := fun w => Lib.hid (headNext_no ep rt pv tm nr at' w r hr h0)
  have c1 : (r == 0) = false := beq_eq_false_iff_ne.2 h0
  have hp := (Bx.new w _ rfl _ [.int .i64 ep, .int .u64 (rt : Int), .int .u64 (pv : Int), .int .i64 tm] 24 rfl).alloc (.cells #[.int .i64 fp, .int .u64 (st : Int), .int .u64 (qv : Int), .int .i64 um] 24)
  have hq := Bx.new (w.alloc (.cells #[.int .i64 ep, .int .u64 (rt : Int), .int .u64 (pv : Int), .int .i64 tm] 24)) (w.heap.size + 1) (by simp) _ [.int .i64 fp, .int .u64 (st : Int), .int .u64 (qv : Int), .int .i64 um] 24 rfl
  have hbw : Below w.heap.size w ((w.alloc (.cells #[.int .i64 ep, .int .u64 (rt : Int), .int .u64 (pv : Int), .int .i64 tm] 24)).alloc (.cells #[.int .i64 fp, .int .u64 (st : Int), .int .u64 (qv : Int), .int .i64 um] 24)) := ((Below.refl _ _).alloc (Nat.le_refl _) _).alloc (by simp) _
  clear hr h0
  go_enter Try.func5, Try.ntmps5
  go_wp2_with fail
  refine (hL _).out.mono ?_
  rintro e w1 ⟨rfl, hb1⟩
  have hp1 := hp.below hb1
  have hq1 := hq.below hb1
  have hbw1 := below_chain hbw hb1
  clear hp hq hbw hb1 hL
  obtain ⟨⟨z0, z1, z2, z3⟩, _⟩ := hp1.get4
  go_wp2_with fail
  clear z0 z1 z2 z3
  refine (hN _).out.mono ?_
  rintro e w2 ⟨rfl, hb2⟩
  have hbw2' := below_chain hbw1 hb2
  have hbw2 := hbw2'.alloc hbw2'.size (.cells #[.int .i64 0, .int .u64 0, .int .u64 0, .int .i64 0] 24)
  clear hb2 hp1 hq1 hbw1 hbw2' hN
  go_wp2
  go_ret
  exact ⟨rfl, hbw2⟩

set_option maxHeartbeats 2000000 in
theorem headNext_b (ep : Int) (rt pv : Nat) (tm : Int) (fp : Int) (st qv : Nat) (um : Int) (nr : Nat) (at' : Int) (w : World) (hk : NextOk (ep, rt, pv, tm) nr at') (r : Int) (hr : nextErr (fp, st, qv, um) nr at' = r) (h0 : r ≠ 0) :
    Calls Try.prog 5 #[.agg #[.int .i64 ep, .int .u64 (rt : Int), .int .u64 (pv : Int), .int .i64 tm], .agg #[.int .i64 fp, .int .u64 (st : Int), .int .u64 (qv : Int), .int .i64 um], .int .u64 (nr : Int), .int .i64 at'] w fun e w' => e = .returned (.bool true) ∧ Below w.heap.size w w' := by
  have hL := fun w => Lib.hid (heads w)
  obtain ⟨q, hqe⟩ : ∃ q, ep + 1 = q := ⟨_, rfl⟩
  obtain ⟨m, hmm⟩ : ∃ m, hmark (ep, rt, pv, tm) = m := ⟨_, rfl⟩
  have hN := fun w => Lib.hid (headNext_ok ep rt pv tm nr at' w hk m hmm q hqe)
  have hC := fun w => Lib.hid (headCheck_next ep rt pv tm nr at' w hk m hmm q hqe)
  have hep : IntKind.i64.wrap (ep + 1) = q := by
    have h1 := hk.g.e0
    have h2 := hk.g.e1
    dsimp only at h1 h2
    rw [IntKind.wrap_i64]
    omega
  have hN2 := fun w => Lib.hid (headNext_no fp st qv um nr at' w r hr h0)
  have c1 : (r == 0) = false := beq_eq_false_iff_ne.2 h0
  have hp := (Bx.new w _ rfl _ [.int .i64 ep, .int .u64 (rt : Int), .int .u64 (pv : Int), .int .i64 tm] 24 rfl).alloc (.cells #[.int .i64 fp, .int .u64 (st : Int), .int .u64 (qv : Int), .int .i64 um] 24)
  have hq := Bx.new (w.alloc (.cells #[.int .i64 ep, .int .u64 (rt : Int), .int .u64 (pv : Int), .int .i64 tm] 24)) (w.heap.size + 1) (by simp) _ [.int .i64 fp, .int .u64 (st : Int), .int .u64 (qv : Int), .int .i64 um] 24 rfl
  have hbw : Below w.heap.size w ((w.alloc (.cells #[.int .i64 ep, .int .u64 (rt : Int), .int .u64 (pv : Int), .int .i64 tm] 24)).alloc (.cells #[.int .i64 fp, .int .u64 (st : Int), .int .u64 (qv : Int), .int .i64 um] 24)) := ((Below.refl _ _).alloc (Nat.le_refl _) _).alloc (by simp) _
  clear hk hr hqe hmm
  go_enter Try.func5, Try.ntmps5
  go_wp2_with fail
  refine (hL _).out.mono ?_
  rintro e w1 ⟨rfl, hb1⟩
  have hp1 := hp.below hb1
  have hq1 := hq.below hb1
  have hbw1 := below_chain hbw hb1
  clear hp hq hbw hb1 hL
  obtain ⟨⟨z0, z1, z2, z3⟩, _⟩ := hp1.get4
  go_wp2_with fail
  clear z0 z1 z2 z3
  refine (hN _).out.mono ?_
  rintro e w2 ⟨rfl, hb2⟩
  have hp2 := (hp1.below hb2).alloc (.cells #[.int .i64 q, .int .u64 (nr : Int), .int .u64 (m : Int), .int .i64 at'] 24)
  have hq2 := (hq1.below hb2).alloc (.cells #[.int .i64 q, .int .u64 (nr : Int), .int .u64 (m : Int), .int .i64 at'] 24)
  have hx2 := Bx.new w2 _ rfl _ [.int .i64 q, .int .u64 (nr : Int), .int .u64 (m : Int), .int .i64 at'] 24 rfl
  have hbw2' := below_chain hbw1 hb2
  have hbw2 := hbw2'.alloc hbw2'.size (.cells #[.int .i64 q, .int .u64 (nr : Int), .int .u64 (m : Int), .int .i64 at'] 24)
  clear hb2 hp1 hq1 hbw1 hbw2' hN
  obtain ⟨⟨z0, z1, z2, z3⟩, _⟩ := hq2.get4
  go_wp2_with fail
  clear z0 z1 z2 z3
  generalize w2.alloc (.cells #[.int .i64 q, .int .u64 (nr : Int), .int .u64 (m : Int), .int .i64 at'] 24) = v2 at *
  generalize w2.heap.size = g2 at *
  refine (hN2 _).out.mono ?_
  rintro e w3 ⟨rfl, hb3⟩
  have hp3 := (hp2.below hb3).alloc (.cells #[.int .i64 0, .int .u64 0, .int .u64 0, .int .i64 0] 24)
  have hq3 := (hq2.below hb3).alloc (.cells #[.int .i64 0, .int .u64 0, .int .u64 0, .int .i64 0] 24)
  have hx3 := (hx2.below hb3).alloc (.cells #[.int .i64 0, .int .u64 0, .int .u64 0, .int .i64 0] 24)
  have hy3 := Bx.new w3 _ rfl _ [.int .i64 0, .int .u64 0, .int .u64 0, .int .i64 0] 24 rfl
  have hbw3' := below_chain hbw2 hb3
  have hbw3 := hbw3'.alloc hbw3'.size (.cells #[.int .i64 0, .int .u64 0, .int .u64 0, .int .i64 0] 24)
  clear hb3 hp2 hq2 hx2 hbw2 hbw3' hN2
  obtain ⟨⟨z0, z1, z2, z3⟩, _⟩ := hx3.get4
  go_wp2_with fail
  clear z0 z1 z2 z3
  generalize w3.alloc (.cells #[.int .i64 0, .int .u64 0, .int .u64 0, .int .i64 0] 24) = v3 at *
  generalize w3.heap.size = g3 at *
  refine (hC _).out.mono ?_
  rintro e w4 ⟨rfl, hb4⟩
  have hp4 := hp3.below hb4
  have hq4 := hq3.below hb4
  have hx4 := hx3.below hb4
  have hy4 := hy3.below hb4
  have hbw4 := below_chain hbw3 hb4
  clear hb4 hp3 hq3 hx3 hy3 hbw3 hC
  obtain ⟨⟨x0, x1, x2, x3⟩, _⟩ := hx4.get4
  obtain ⟨⟨y0, y1, y2, y3⟩, _⟩ := hy4.get4
  obtain ⟨⟨p0, p1, p2, p3⟩, _⟩ := hp4.get4
  obtain ⟨⟨q0, q1, q2, q3⟩, _⟩ := hq4.get4
  clear hx4 hy4 hp4 hq4
  go_wp2
  go_ret
  exact ⟨rfl, hbw4⟩

set_option maxHeartbeats 2000000 in
theorem headNext_c (ep : Int) (rt pv : Nat) (tm : Int) (fp : Int) (st qv : Nat) (um : Int) (nr : Nat) (at' : Int) (w : World) (hk : NextOk (ep, rt, pv, tm) nr at') (hj : NextOk (fp, st, qv, um) nr at') (hne : ep ≠ fp) :
    Calls Try.prog 5 #[.agg #[.int .i64 ep, .int .u64 (rt : Int), .int .u64 (pv : Int), .int .i64 tm], .agg #[.int .i64 fp, .int .u64 (st : Int), .int .u64 (qv : Int), .int .i64 um], .int .u64 (nr : Int), .int .i64 at'] w fun e w' => e = .returned (.bool true) ∧ Below w.heap.size w w' := by
  have hL := fun w => Lib.hid (heads w)
  obtain ⟨q, hqe⟩ : ∃ q, ep + 1 = q := ⟨_, rfl⟩
  obtain ⟨m, hmm⟩ : ∃ m, hmark (ep, rt, pv, tm) = m := ⟨_, rfl⟩
  have hN := fun w => Lib.hid (headNext_ok ep rt pv tm nr at' w hk m hmm q hqe)
  have hC := fun w => Lib.hid (headCheck_next ep rt pv tm nr at' w hk m hmm q hqe)
  have hep : IntKind.i64.wrap (ep + 1) = q := by
    have h1 := hk.g.e0
    have h2 := hk.g.e1
    dsimp only at h1 h2
    rw [IntKind.wrap_i64]
    omega
  obtain ⟨m2, hm2⟩ : ∃ m, hmark (fp, st, qv, um) = m := ⟨_, rfl⟩
  obtain ⟨q2, hqe2⟩ : ∃ q, fp + 1 = q := ⟨_, rfl⟩
  have hN2 := fun w => Lib.hid (headNext_ok fp st qv um nr at' w hj m2 hm2 q2 hqe2)
  have c1 : (q == q2) = false := beq_eq_false_iff_ne.2 (by omega)
  have c2 : ¬ (q = q2) := by omega
  have hp := (Bx.new w _ rfl _ [.int .i64 ep, .int .u64 (rt : Int), .int .u64 (pv : Int), .int .i64 tm] 24 rfl).alloc (.cells #[.int .i64 fp, .int .u64 (st : Int), .int .u64 (qv : Int), .int .i64 um] 24)
  have hq := Bx.new (w.alloc (.cells #[.int .i64 ep, .int .u64 (rt : Int), .int .u64 (pv : Int), .int .i64 tm] 24)) (w.heap.size + 1) (by simp) _ [.int .i64 fp, .int .u64 (st : Int), .int .u64 (qv : Int), .int .i64 um] 24 rfl
  have hbw : Below w.heap.size w ((w.alloc (.cells #[.int .i64 ep, .int .u64 (rt : Int), .int .u64 (pv : Int), .int .i64 tm] 24)).alloc (.cells #[.int .i64 fp, .int .u64 (st : Int), .int .u64 (qv : Int), .int .i64 um] 24)) := ((Below.refl _ _).alloc (Nat.le_refl _) _).alloc (by simp) _
  clear hk hj hne hqe hqe2 hmm hm2
  go_enter Try.func5, Try.ntmps5
  go_wp2_with fail
  refine (hL _).out.mono ?_
  rintro e w1 ⟨rfl, hb1⟩
  have hp1 := hp.below hb1
  have hq1 := hq.below hb1
  have hbw1 := below_chain hbw hb1
  clear hp hq hbw hb1 hL
  obtain ⟨⟨z0, z1, z2, z3⟩, _⟩ := hp1.get4
  go_wp2_with fail
  clear z0 z1 z2 z3
  refine (hN _).out.mono ?_
  rintro e w2 ⟨rfl, hb2⟩
  have hp2 := (hp1.below hb2).alloc (.cells #[.int .i64 q, .int .u64 (nr : Int), .int .u64 (m : Int), .int .i64 at'] 24)
  have hq2 := (hq1.below hb2).alloc (.cells #[.int .i64 q, .int .u64 (nr : Int), .int .u64 (m : Int), .int .i64 at'] 24)
  have hx2 := Bx.new w2 _ rfl _ [.int .i64 q, .int .u64 (nr : Int), .int .u64 (m : Int), .int .i64 at'] 24 rfl
  have hbw2' := below_chain hbw1 hb2
  have hbw2 := hbw2'.alloc hbw2'.size (.cells #[.int .i64 q, .int .u64 (nr : Int), .int .u64 (m : Int), .int .i64 at'] 24)
  clear hb2 hp1 hq1 hbw1 hbw2' hN
  obtain ⟨⟨z0, z1, z2, z3⟩, _⟩ := hq2.get4
  go_wp2_with fail
  clear z0 z1 z2 z3
  generalize w2.alloc (.cells #[.int .i64 q, .int .u64 (nr : Int), .int .u64 (m : Int), .int .i64 at'] 24) = v2 at *
  generalize w2.heap.size = g2 at *
  refine (hN2 _).out.mono ?_
  rintro e w3 ⟨rfl, hb3⟩
  have hp3 := (hp2.below hb3).alloc (.cells #[.int .i64 q2, .int .u64 (nr : Int), .int .u64 (m2 : Int), .int .i64 at'] 24)
  have hq3 := (hq2.below hb3).alloc (.cells #[.int .i64 q2, .int .u64 (nr : Int), .int .u64 (m2 : Int), .int .i64 at'] 24)
  have hx3 := (hx2.below hb3).alloc (.cells #[.int .i64 q2, .int .u64 (nr : Int), .int .u64 (m2 : Int), .int .i64 at'] 24)
  have hy3 := Bx.new w3 _ rfl _ [.int .i64 q2, .int .u64 (nr : Int), .int .u64 (m2 : Int), .int .i64 at'] 24 rfl
  have hbw3' := below_chain hbw2 hb3
  have hbw3 := hbw3'.alloc hbw3'.size (.cells #[.int .i64 q2, .int .u64 (nr : Int), .int .u64 (m2 : Int), .int .i64 at'] 24)
  clear hb3 hp2 hq2 hx2 hbw2 hbw3' hN2
  obtain ⟨⟨z0, z1, z2, z3⟩, _⟩ := hx3.get4
  go_wp2_with fail
  clear z0 z1 z2 z3
  generalize w3.alloc (.cells #[.int .i64 q2, .int .u64 (nr : Int), .int .u64 (m2 : Int), .int .i64 at'] 24) = v3 at *
  generalize w3.heap.size = g3 at *
  refine (hC _).out.mono ?_
  rintro e w4 ⟨rfl, hb4⟩
  have hp4 := hp3.below hb4
  have hq4 := hq3.below hb4
  have hx4 := hx3.below hb4
  have hy4 := hy3.below hb4
  have hbw4 := below_chain hbw3 hb4
  clear hb4 hp3 hq3 hx3 hy3 hbw3 hC
  obtain ⟨⟨x0, x1, x2, x3⟩, _⟩ := hx4.get4
  obtain ⟨⟨y0, y1, y2, y3⟩, _⟩ := hy4.get4
  obtain ⟨⟨p0, p1, p2, p3⟩, _⟩ := hp4.get4
  obtain ⟨⟨q0, q1, q2, q3⟩, _⟩ := hq4.get4
  clear hx4 hy4 hp4 hq4
  go_wp2
  go_ret
  exact ⟨rfl, hbw4⟩

set_option maxHeartbeats 2000000 in
theorem headNext_d (ep : Int) (rt pv : Nat) (tm : Int) (st qv : Nat) (um : Int) (nr : Nat) (at' : Int) (w : World) (hk : NextOk (ep, rt, pv, tm) nr at') (hj : NextOk (ep, st, qv, um) nr at') (hne : hmark (ep, rt, pv, tm) ≠ hmark (ep, st, qv, um)) :
    Calls Try.prog 5 #[.agg #[.int .i64 ep, .int .u64 (rt : Int), .int .u64 (pv : Int), .int .i64 tm], .agg #[.int .i64 ep, .int .u64 (st : Int), .int .u64 (qv : Int), .int .i64 um], .int .u64 (nr : Int), .int .i64 at'] w fun e w' => e = .returned (.bool true) ∧ Below w.heap.size w w' := by
  have hL := fun w => Lib.hid (heads w)
  obtain ⟨q, hqe⟩ : ∃ q, ep + 1 = q := ⟨_, rfl⟩
  obtain ⟨m, hmm⟩ : ∃ m, hmark (ep, rt, pv, tm) = m := ⟨_, rfl⟩
  have hN := fun w => Lib.hid (headNext_ok ep rt pv tm nr at' w hk m hmm q hqe)
  have hC := fun w => Lib.hid (headCheck_next ep rt pv tm nr at' w hk m hmm q hqe)
  have hep : IntKind.i64.wrap (ep + 1) = q := by
    have h1 := hk.g.e0
    have h2 := hk.g.e1
    dsimp only at h1 h2
    rw [IntKind.wrap_i64]
    omega
  obtain ⟨m2, hm2⟩ : ∃ m, hmark (ep, st, qv, um) = m := ⟨_, rfl⟩
  have hN2 := fun w => Lib.hid (headNext_ok ep st qv um nr at' w hj m2 hm2 q hqe)
  rw [hmm, hm2] at hne
  have c1 : ((m : Int) == (m2 : Int)) = false := beq_eq_false_iff_ne.2 (by omega)
  have c2 : ¬ ((m : Int) = (m2 : Int)) := by omega
  have hp := (Bx.new w _ rfl _ [.int .i64 ep, .int .u64 (rt : Int), .int .u64 (pv : Int), .int .i64 tm] 24 rfl).alloc (.cells #[.int .i64 ep, .int .u64 (st : Int), .int .u64 (qv : Int), .int .i64 um] 24)
  have hq := Bx.new (w.alloc (.cells #[.int .i64 ep, .int .u64 (rt : Int), .int .u64 (pv : Int), .int .i64 tm] 24)) (w.heap.size + 1) (by simp) _ [.int .i64 ep, .int .u64 (st : Int), .int .u64 (qv : Int), .int .i64 um] 24 rfl
  have hbw : Below w.heap.size w ((w.alloc (.cells #[.int .i64 ep, .int .u64 (rt : Int), .int .u64 (pv : Int), .int .i64 tm] 24)).alloc (.cells #[.int .i64 ep, .int .u64 (st : Int), .int .u64 (qv : Int), .int .i64 um] 24)) := ((Below.refl _ _).alloc (Nat.le_refl _) _).alloc (by simp) _
  clear hk hj hqe hmm hm2
  go_enter Try.func5, Try.ntmps5
  go_wp2_with fail
  refine (hL _).out.mono ?_
  rintro e w1 ⟨rfl, hb1⟩
  have hp1 := hp.below hb1
  have hq1 := hq.below hb1
  have hbw1 := below_chain hbw hb1
  clear hp hq hbw hb1 hL
  obtain ⟨⟨z0, z1, z2, z3⟩, _⟩ := hp1.get4
  go_wp2_with fail
  clear z0 z1 z2 z3
  refine (hN _).out.mono ?_
  rintro e w2 ⟨rfl, hb2⟩
  have hp2 := (hp1.below hb2).alloc (.cells #[.int .i64 q, .int .u64 (nr : Int), .int .u64 (m : Int), .int .i64 at'] 24)
  have hq2 := (hq1.below hb2).alloc (.cells #[.int .i64 q, .int .u64 (nr : Int), .int .u64 (m : Int), .int .i64 at'] 24)
  have hx2 := Bx.new w2 _ rfl _ [.int .i64 q, .int .u64 (nr : Int), .int .u64 (m : Int), .int .i64 at'] 24 rfl
  have hbw2' := below_chain hbw1 hb2
  have hbw2 := hbw2'.alloc hbw2'.size (.cells #[.int .i64 q, .int .u64 (nr : Int), .int .u64 (m : Int), .int .i64 at'] 24)
  clear hb2 hp1 hq1 hbw1 hbw2' hN
  obtain ⟨⟨z0, z1, z2, z3⟩, _⟩ := hq2.get4
  go_wp2_with fail
  clear z0 z1 z2 z3
  generalize w2.alloc (.cells #[.int .i64 q, .int .u64 (nr : Int), .int .u64 (m : Int), .int .i64 at'] 24) = v2 at *
  generalize w2.heap.size = g2 at *
  refine (hN2 _).out.mono ?_
  rintro e w3 ⟨rfl, hb3⟩
  have hp3 := (hp2.below hb3).alloc (.cells #[.int .i64 q, .int .u64 (nr : Int), .int .u64 (m2 : Int), .int .i64 at'] 24)
  have hq3 := (hq2.below hb3).alloc (.cells #[.int .i64 q, .int .u64 (nr : Int), .int .u64 (m2 : Int), .int .i64 at'] 24)
  have hx3 := (hx2.below hb3).alloc (.cells #[.int .i64 q, .int .u64 (nr : Int), .int .u64 (m2 : Int), .int .i64 at'] 24)
  have hy3 := Bx.new w3 _ rfl _ [.int .i64 q, .int .u64 (nr : Int), .int .u64 (m2 : Int), .int .i64 at'] 24 rfl
  have hbw3' := below_chain hbw2 hb3
  have hbw3 := hbw3'.alloc hbw3'.size (.cells #[.int .i64 q, .int .u64 (nr : Int), .int .u64 (m2 : Int), .int .i64 at'] 24)
  clear hb3 hp2 hq2 hx2 hbw2 hbw3' hN2
  obtain ⟨⟨z0, z1, z2, z3⟩, _⟩ := hx3.get4
  go_wp2_with fail
  clear z0 z1 z2 z3
  generalize w3.alloc (.cells #[.int .i64 q, .int .u64 (nr : Int), .int .u64 (m2 : Int), .int .i64 at'] 24) = v3 at *
  generalize w3.heap.size = g3 at *
  refine (hC _).out.mono ?_
  rintro e w4 ⟨rfl, hb4⟩
  have hp4 := hp3.below hb4
  have hq4 := hq3.below hb4
  have hx4 := hx3.below hb4
  have hy4 := hy3.below hb4
  have hbw4 := below_chain hbw3 hb4
  clear hb4 hp3 hq3 hx3 hy3 hbw3 hC
  obtain ⟨⟨x0, x1, x2, x3⟩, _⟩ := hx4.get4
  obtain ⟨⟨y0, y1, y2, y3⟩, _⟩ := hy4.get4
  obtain ⟨⟨p0, p1, p2, p3⟩, _⟩ := hp4.get4
  obtain ⟨⟨q0, q1, q2, q3⟩, _⟩ := hq4.get4
  clear hx4 hy4 hp4 hq4
  go_wp2
  go_ret
  exact ⟨rfl, hbw4⟩

set_option maxHeartbeats 2000000 in
theorem headNext_e (ep : Int) (rt pv : Nat) (tm : Int) (nr : Nat) (at' : Int) (w : World) (hk : NextOk (ep, rt, pv, tm) nr at') :
    Calls Try.prog 5 #[.agg #[.int .i64 ep, .int .u64 (rt : Int), .int .u64 (pv : Int), .int .i64 tm], .agg #[.int .i64 ep, .int .u64 (rt : Int), .int .u64 (pv : Int), .int .i64 tm], .int .u64 (nr : Int), .int .i64 at'] w fun e w' => e = .returned (.bool true) ∧ Below w.heap.size w w' := by
  have hL := fun w => Lib.hid (heads w)
  obtain ⟨q, hqe⟩ : ∃ q, ep + 1 = q := ⟨_, rfl⟩
  obtain ⟨m, hmm⟩ : ∃ m, hmark (ep, rt, pv, tm) = m := ⟨_, rfl⟩
  have hN := fun w => Lib.hid (headNext_ok ep rt pv tm nr at' w hk m hmm q hqe)
  have hC := fun w => Lib.hid (headCheck_next ep rt pv tm nr at' w hk m hmm q hqe)
  have hep : IntKind.i64.wrap (ep + 1) = q := by
    have h1 := hk.g.e0
    have h2 := hk.g.e1
    dsimp only at h1 h2
    rw [IntKind.wrap_i64]
    omega
  have hN2 := hN
  have hp := (Bx.new w _ rfl _ [.int .i64 ep, .int .u64 (rt : Int), .int .u64 (pv : Int), .int .i64 tm] 24 rfl).alloc (.cells #[.int .i64 ep, .int .u64 (rt : Int), .int .u64 (pv : Int), .int .i64 tm] 24)
  have hq := Bx.new (w.alloc (.cells #[.int .i64 ep, .int .u64 (rt : Int), .int .u64 (pv : Int), .int .i64 tm] 24)) (w.heap.size + 1) (by simp) _ [.int .i64 ep, .int .u64 (rt : Int), .int .u64 (pv : Int), .int .i64 tm] 24 rfl
  have hbw : Below w.heap.size w ((w.alloc (.cells #[.int .i64 ep, .int .u64 (rt : Int), .int .u64 (pv : Int), .int .i64 tm] 24)).alloc (.cells #[.int .i64 ep, .int .u64 (rt : Int), .int .u64 (pv : Int), .int .i64 tm] 24)) := ((Below.refl _ _).alloc (Nat.le_refl _) _).alloc (by simp) _
  clear hk hqe hmm
  go_enter Try.func5, Try.ntmps5
  go_wp2_with fail
  refine (hL _).out.mono ?_
  rintro e w1 ⟨rfl, hb1⟩
  have hp1 := hp.below hb1
  have hq1 := hq.below hb1
  have hbw1 := below_chain hbw hb1
  clear hp hq hbw hb1 hL
  obtain ⟨⟨z0, z1, z2, z3⟩, _⟩ := hp1.get4
  go_wp2_with fail
  clear z0 z1 z2 z3
  refine (hN _).out.mono ?_
  rintro e w2 ⟨rfl, hb2⟩
  have hp2 := (hp1.below hb2).alloc (.cells #[.int .i64 q, .int .u64 (nr : Int), .int .u64 (m : Int), .int .i64 at'] 24)
  have hq2 := (hq1.below hb2).alloc (.cells #[.int .i64 q, .int .u64 (nr : Int), .int .u64 (m : Int), .int .i64 at'] 24)
  have hx2 := Bx.new w2 _ rfl _ [.int .i64 q, .int .u64 (nr : Int), .int .u64 (m : Int), .int .i64 at'] 24 rfl
  have hbw2' := below_chain hbw1 hb2
  have hbw2 := hbw2'.alloc hbw2'.size (.cells #[.int .i64 q, .int .u64 (nr : Int), .int .u64 (m : Int), .int .i64 at'] 24)
  clear hb2 hp1 hq1 hbw1 hbw2' hN
  obtain ⟨⟨z0, z1, z2, z3⟩, _⟩ := hq2.get4
  go_wp2_with fail
  clear z0 z1 z2 z3
  generalize w2.alloc (.cells #[.int .i64 q, .int .u64 (nr : Int), .int .u64 (m : Int), .int .i64 at'] 24) = v2 at *
  generalize w2.heap.size = g2 at *
  refine (hN2 _).out.mono ?_
  rintro e w3 ⟨rfl, hb3⟩
  have hp3 := (hp2.below hb3).alloc (.cells #[.int .i64 q, .int .u64 (nr : Int), .int .u64 (m : Int), .int .i64 at'] 24)
  have hq3 := (hq2.below hb3).alloc (.cells #[.int .i64 q, .int .u64 (nr : Int), .int .u64 (m : Int), .int .i64 at'] 24)
  have hx3 := (hx2.below hb3).alloc (.cells #[.int .i64 q, .int .u64 (nr : Int), .int .u64 (m : Int), .int .i64 at'] 24)
  have hy3 := Bx.new w3 _ rfl _ [.int .i64 q, .int .u64 (nr : Int), .int .u64 (m : Int), .int .i64 at'] 24 rfl
  have hbw3' := below_chain hbw2 hb3
  have hbw3 := hbw3'.alloc hbw3'.size (.cells #[.int .i64 q, .int .u64 (nr : Int), .int .u64 (m : Int), .int .i64 at'] 24)
  clear hb3 hp2 hq2 hx2 hbw2 hbw3' hN2
  obtain ⟨⟨z0, z1, z2, z3⟩, _⟩ := hx3.get4
  go_wp2_with fail
  clear z0 z1 z2 z3
  generalize w3.alloc (.cells #[.int .i64 q, .int .u64 (nr : Int), .int .u64 (m : Int), .int .i64 at'] 24) = v3 at *
  generalize w3.heap.size = g3 at *
  refine (hC _).out.mono ?_
  rintro e w4 ⟨rfl, hb4⟩
  have hp4 := hp3.below hb4
  have hq4 := hq3.below hb4
  have hx4 := hx3.below hb4
  have hy4 := hy3.below hb4
  have hbw4 := below_chain hbw3 hb4
  clear hb4 hp3 hq3 hx3 hy3 hbw3 hC
  obtain ⟨⟨x0, x1, x2, x3⟩, _⟩ := hx4.get4
  obtain ⟨⟨y0, y1, y2, y3⟩, _⟩ := hy4.get4
  obtain ⟨⟨p0, p1, p2, p3⟩, _⟩ := hp4.get4
  obtain ⟨⟨q0, q1, q2, q3⟩, _⟩ := hq4.get4
  clear hx4 hy4 hp4 hq4
  go_wp2
  go_ret
  exact ⟨rfl, hbw4⟩

set_option maxHeartbeats 2000000 in
theorem headNext_f (ep : Int) (rt pv : Nat) (tm : Int) (st qv : Nat) (um : Int) (nr : Nat) (at' : Int) (w : World) (hk : NextOk (ep, rt, pv, tm) nr at') (hj : NextOk (ep, st, qv, um) nr at') (hm : hmark (ep, rt, pv, tm) = hmark (ep, st, qv, um)) (hd : rt ≠ st) :
    Calls Try.prog 5 #[.agg #[.int .i64 ep, .int .u64 (rt : Int), .int .u64 (pv : Int), .int .i64 tm], .agg #[.int .i64 ep, .int .u64 (st : Int), .int .u64 (qv : Int), .int .i64 um], .int .u64 (nr : Int), .int .i64 at'] w fun e w' => e = .returned (.bool true) ∧ Below w.heap.size w w' := by
  have hL := fun w => Lib.hid (heads w)
  obtain ⟨q, hqe⟩ : ∃ q, ep + 1 = q := ⟨_, rfl⟩
  obtain ⟨m, hmm⟩ : ∃ m, hmark (ep, rt, pv, tm) = m := ⟨_, rfl⟩
  have hN := fun w => Lib.hid (headNext_ok ep rt pv tm nr at' w hk m hmm q hqe)
  have hC := fun w => Lib.hid (headCheck_next ep rt pv tm nr at' w hk m hmm q hqe)
  have hep : IntKind.i64.wrap (ep + 1) = q := by
    have h1 := hk.g.e0
    have h2 := hk.g.e1
    dsimp only at h1 h2
    rw [IntKind.wrap_i64]
    omega
  have hN2 := fun w => Lib.hid (headNext_ok ep st qv um nr at' w hj m (hm.symm.trans hmm) q hqe)
  have c1 : ((rt : Int) == (st : Int)) = false := beq_eq_false_iff_ne.2 (by omega)
  have c2 : ¬ ((rt : Int) = (st : Int)) := by omega
  have c3 := hd
  have hne : hsaid (ep, rt, pv, tm) ≠ hsaid (ep, st, qv, um) := fun e => by
    have := hsaid_inj hk.g hj.g e
    simp only [Prod.mk.injEq] at this
    omega
  have hS := fun w => Lib.hid (headSaid_yes ep rt pv tm w hk.g _ rfl)
  have hT := fun w => Lib.hid (headSaid_yes ep st qv um w hj.g _ rfl)
  have hG := fun w g hg => Lib.hid (goods2 0 0 w g 25 hg true rfl)
  have hA := fun w => Lib.hid (markAlike (hsaid (ep, rt, pv, tm)) (hsaid (ep, st, qv, um)) w (hsaid_le _) (hsaid_le _) true ((alikeB_iff _ _).2 ⟨hne, hm⟩))
  clear hne hm hmm hqe
  generalize hsaid (ep, rt, pv, tm) = s at *
  generalize hsaid (ep, st, qv, um) = t at *
  have hp := (Bx.new w _ rfl _ [.int .i64 ep, .int .u64 (rt : Int), .int .u64 (pv : Int), .int .i64 tm] 24 rfl).alloc (.cells #[.int .i64 ep, .int .u64 (st : Int), .int .u64 (qv : Int), .int .i64 um] 24)
  have hq := Bx.new (w.alloc (.cells #[.int .i64 ep, .int .u64 (rt : Int), .int .u64 (pv : Int), .int .i64 tm] 24)) (w.heap.size + 1) (by simp) _ [.int .i64 ep, .int .u64 (st : Int), .int .u64 (qv : Int), .int .i64 um] 24 rfl
  have hbw : Below w.heap.size w ((w.alloc (.cells #[.int .i64 ep, .int .u64 (rt : Int), .int .u64 (pv : Int), .int .i64 tm] 24)).alloc (.cells #[.int .i64 ep, .int .u64 (st : Int), .int .u64 (qv : Int), .int .i64 um] 24)) := ((Below.refl _ _).alloc (Nat.le_refl _) _).alloc (by simp) _
  clear hk hj hd
  go_enter Try.func5, Try.ntmps5
  go_wp2_with fail
  refine (hL _).out.mono ?_
  rintro e w1 ⟨rfl, hb1⟩
  have hp1 := hp.below hb1
  have hq1 := hq.below hb1
  have hbw1 := below_chain hbw hb1
  clear hp hq hbw hb1 hL
  obtain ⟨⟨z0, z1, z2, z3⟩, _⟩ := hp1.get4
  go_wp2_with fail
  clear z0 z1 z2 z3
  refine (hN _).out.mono ?_
  rintro e w2 ⟨rfl, hb2⟩
  have hp2 := (hp1.below hb2).alloc (.cells #[.int .i64 q, .int .u64 (nr : Int), .int .u64 (m : Int), .int .i64 at'] 24)
  have hq2 := (hq1.below hb2).alloc (.cells #[.int .i64 q, .int .u64 (nr : Int), .int .u64 (m : Int), .int .i64 at'] 24)
  have hx2 := Bx.new w2 _ rfl _ [.int .i64 q, .int .u64 (nr : Int), .int .u64 (m : Int), .int .i64 at'] 24 rfl
  have hbw2' := below_chain hbw1 hb2
  have hbw2 := hbw2'.alloc hbw2'.size (.cells #[.int .i64 q, .int .u64 (nr : Int), .int .u64 (m : Int), .int .i64 at'] 24)
  clear hb2 hp1 hq1 hbw1 hbw2' hN
  obtain ⟨⟨z0, z1, z2, z3⟩, _⟩ := hq2.get4
  go_wp2_with fail
  clear z0 z1 z2 z3
  generalize w2.alloc (.cells #[.int .i64 q, .int .u64 (nr : Int), .int .u64 (m : Int), .int .i64 at'] 24) = v2 at *
  generalize w2.heap.size = g2 at *
  refine (hN2 _).out.mono ?_
  rintro e w3 ⟨rfl, hb3⟩
  have hp3 := (hp2.below hb3).alloc (.cells #[.int .i64 q, .int .u64 (nr : Int), .int .u64 (m : Int), .int .i64 at'] 24)
  have hq3 := (hq2.below hb3).alloc (.cells #[.int .i64 q, .int .u64 (nr : Int), .int .u64 (m : Int), .int .i64 at'] 24)
  have hx3 := (hx2.below hb3).alloc (.cells #[.int .i64 q, .int .u64 (nr : Int), .int .u64 (m : Int), .int .i64 at'] 24)
  have hy3 := Bx.new w3 _ rfl _ [.int .i64 q, .int .u64 (nr : Int), .int .u64 (m : Int), .int .i64 at'] 24 rfl
  have hbw3' := below_chain hbw2 hb3
  have hbw3 := hbw3'.alloc hbw3'.size (.cells #[.int .i64 q, .int .u64 (nr : Int), .int .u64 (m : Int), .int .i64 at'] 24)
  clear hb3 hp2 hq2 hx2 hbw2 hbw3' hN2
  obtain ⟨⟨z0, z1, z2, z3⟩, _⟩ := hx3.get4
  go_wp2_with fail
  clear z0 z1 z2 z3
  generalize w3.alloc (.cells #[.int .i64 q, .int .u64 (nr : Int), .int .u64 (m : Int), .int .i64 at'] 24) = v3 at *
  generalize w3.heap.size = g3 at *
  refine (hC _).out.mono ?_
  rintro e w4 ⟨rfl, hb4⟩
  have hp4 := hp3.below hb4
  have hq4 := hq3.below hb4
  have hx4 := hx3.below hb4
  have hy4 := hy3.below hb4
  have hbw4 := below_chain hbw3 hb4
  clear hb4 hp3 hq3 hx3 hy3 hbw3 hC
  obtain ⟨⟨x0, x1, x2, x3⟩, _⟩ := hx4.get4
  obtain ⟨⟨y0, y1, y2, y3⟩, _⟩ := hy4.get4
  obtain ⟨⟨p0, p1, p2, p3⟩, _⟩ := hp4.get4
  obtain ⟨⟨q0, q1, q2, q3⟩, _⟩ := hq4.get4
  clear hx4 hy4 hp4
  go_wp2_with fail
  clear x0 x1 x2 x3 y0 y1 y2 y3 p0 p1 p2 p3 q0 q1 q2 q3
  refine (hS _).out.mono ?_
  rintro e w5 ⟨rfl, hb5⟩
  have hq5 := hq4.below hb5
  have hbw5 := below_chain hbw4 hb5
  clear hb5 hq4 hbw4 hS
  obtain ⟨⟨q0, q1, q2, q3⟩, _⟩ := hq5.get4
  go_wp2_with fail
  refine (hT _).out.mono ?_
  rintro e w6 ⟨rfl, hb6⟩
  have hbw6 := below_chain hbw5 hb6
  clear hb6 q0 q1 q2 q3 hq5 hbw5 hT
  go_wp2_with fail
  refine (hG _ _ rfl).out.mono ?_
  rintro e w7 ⟨rfl, rfl⟩
  go_wp2_with fail
  refine (hA _).out.mono ?_
  rintro e w8 ⟨rfl, k, rfl⟩
  have hbw8 := below_drewN (hbw6.alloc hbw6.size (.cells #[.int .i64 0, .int .i64 0] 25)) k
  go_wp2
  go_ret
  exact ⟨rfl, hbw8⟩

set_option maxHeartbeats 2000000 in
theorem headNext_g (ep : Int) (rt pv : Nat) (tm : Int) (qv : Nat) (um : Int) (nr : Nat) (at' : Int) (w : World) (hk : NextOk (ep, rt, pv, tm) nr at') (hj : NextOk (ep, rt, qv, um) nr at') (hm : hmark (ep, rt, pv, tm) = hmark (ep, rt, qv, um)) (hd : pv ≠ qv) :
    Calls Try.prog 5 #[.agg #[.int .i64 ep, .int .u64 (rt : Int), .int .u64 (pv : Int), .int .i64 tm], .agg #[.int .i64 ep, .int .u64 (rt : Int), .int .u64 (qv : Int), .int .i64 um], .int .u64 (nr : Int), .int .i64 at'] w fun e w' => e = .returned (.bool true) ∧ Below w.heap.size w w' := by
  have hL := fun w => Lib.hid (heads w)
  obtain ⟨q, hqe⟩ : ∃ q, ep + 1 = q := ⟨_, rfl⟩
  obtain ⟨m, hmm⟩ : ∃ m, hmark (ep, rt, pv, tm) = m := ⟨_, rfl⟩
  have hN := fun w => Lib.hid (headNext_ok ep rt pv tm nr at' w hk m hmm q hqe)
  have hC := fun w => Lib.hid (headCheck_next ep rt pv tm nr at' w hk m hmm q hqe)
  have hep : IntKind.i64.wrap (ep + 1) = q := by
    have h1 := hk.g.e0
    have h2 := hk.g.e1
    dsimp only at h1 h2
    rw [IntKind.wrap_i64]
    omega
  have hN2 := fun w => Lib.hid (headNext_ok ep rt qv um nr at' w hj m (hm.symm.trans hmm) q hqe)
  have c1 : ((pv : Int) == (qv : Int)) = false := beq_eq_false_iff_ne.2 (by omega)
  have c2 : ¬ ((pv : Int) = (qv : Int)) := by omega
  have c3 := hd
  have hne : hsaid (ep, rt, pv, tm) ≠ hsaid (ep, rt, qv, um) := fun e => by
    have := hsaid_inj hk.g hj.g e
    simp only [Prod.mk.injEq] at this
    omega
  have hS := fun w => Lib.hid (headSaid_yes ep rt pv tm w hk.g _ rfl)
  have hT := fun w => Lib.hid (headSaid_yes ep rt qv um w hj.g _ rfl)
  have hG := fun w g hg => Lib.hid (goods2 0 0 w g 25 hg true rfl)
  have hA := fun w => Lib.hid (markAlike (hsaid (ep, rt, pv, tm)) (hsaid (ep, rt, qv, um)) w (hsaid_le _) (hsaid_le _) true ((alikeB_iff _ _).2 ⟨hne, hm⟩))
  clear hne hm hmm hqe
  generalize hsaid (ep, rt, pv, tm) = s at *
  generalize hsaid (ep, rt, qv, um) = t at *
  have hp := (Bx.new w _ rfl _ [.int .i64 ep, .int .u64 (rt : Int), .int .u64 (pv : Int), .int .i64 tm] 24 rfl).alloc (.cells #[.int .i64 ep, .int .u64 (rt : Int), .int .u64 (qv : Int), .int .i64 um] 24)
  have hq := Bx.new (w.alloc (.cells #[.int .i64 ep, .int .u64 (rt : Int), .int .u64 (pv : Int), .int .i64 tm] 24)) (w.heap.size + 1) (by simp) _ [.int .i64 ep, .int .u64 (rt : Int), .int .u64 (qv : Int), .int .i64 um] 24 rfl
  have hbw : Below w.heap.size w ((w.alloc (.cells #[.int .i64 ep, .int .u64 (rt : Int), .int .u64 (pv : Int), .int .i64 tm] 24)).alloc (.cells #[.int .i64 ep, .int .u64 (rt : Int), .int .u64 (qv : Int), .int .i64 um] 24)) := ((Below.refl _ _).alloc (Nat.le_refl _) _).alloc (by simp) _
  clear hk hj hd
  go_enter Try.func5, Try.ntmps5
  go_wp2_with fail
  refine (hL _).out.mono ?_
  rintro e w1 ⟨rfl, hb1⟩
  have hp1 := hp.below hb1
  have hq1 := hq.below hb1
  have hbw1 := below_chain hbw hb1
  clear hp hq hbw hb1 hL
  obtain ⟨⟨z0, z1, z2, z3⟩, _⟩ := hp1.get4
  go_wp2_with fail
  clear z0 z1 z2 z3
  refine (hN _).out.mono ?_
  rintro e w2 ⟨rfl, hb2⟩
  have hp2 := (hp1.below hb2).alloc (.cells #[.int .i64 q, .int .u64 (nr : Int), .int .u64 (m : Int), .int .i64 at'] 24)
  have hq2 := (hq1.below hb2).alloc (.cells #[.int .i64 q, .int .u64 (nr : Int), .int .u64 (m : Int), .int .i64 at'] 24)
  have hx2 := Bx.new w2 _ rfl _ [.int .i64 q, .int .u64 (nr : Int), .int .u64 (m : Int), .int .i64 at'] 24 rfl
  have hbw2' := below_chain hbw1 hb2
  have hbw2 := hbw2'.alloc hbw2'.size (.cells #[.int .i64 q, .int .u64 (nr : Int), .int .u64 (m : Int), .int .i64 at'] 24)
  clear hb2 hp1 hq1 hbw1 hbw2' hN
  obtain ⟨⟨z0, z1, z2, z3⟩, _⟩ := hq2.get4
  go_wp2_with fail
  clear z0 z1 z2 z3
  generalize w2.alloc (.cells #[.int .i64 q, .int .u64 (nr : Int), .int .u64 (m : Int), .int .i64 at'] 24) = v2 at *
  generalize w2.heap.size = g2 at *
  refine (hN2 _).out.mono ?_
  rintro e w3 ⟨rfl, hb3⟩
  have hp3 := (hp2.below hb3).alloc (.cells #[.int .i64 q, .int .u64 (nr : Int), .int .u64 (m : Int), .int .i64 at'] 24)
  have hq3 := (hq2.below hb3).alloc (.cells #[.int .i64 q, .int .u64 (nr : Int), .int .u64 (m : Int), .int .i64 at'] 24)
  have hx3 := (hx2.below hb3).alloc (.cells #[.int .i64 q, .int .u64 (nr : Int), .int .u64 (m : Int), .int .i64 at'] 24)
  have hy3 := Bx.new w3 _ rfl _ [.int .i64 q, .int .u64 (nr : Int), .int .u64 (m : Int), .int .i64 at'] 24 rfl
  have hbw3' := below_chain hbw2 hb3
  have hbw3 := hbw3'.alloc hbw3'.size (.cells #[.int .i64 q, .int .u64 (nr : Int), .int .u64 (m : Int), .int .i64 at'] 24)
  clear hb3 hp2 hq2 hx2 hbw2 hbw3' hN2
  obtain ⟨⟨z0, z1, z2, z3⟩, _⟩ := hx3.get4
  go_wp2_with fail
  clear z0 z1 z2 z3
  generalize w3.alloc (.cells #[.int .i64 q, .int .u64 (nr : Int), .int .u64 (m : Int), .int .i64 at'] 24) = v3 at *
  generalize w3.heap.size = g3 at *
  refine (hC _).out.mono ?_
  rintro e w4 ⟨rfl, hb4⟩
  have hp4 := hp3.below hb4
  have hq4 := hq3.below hb4
  have hx4 := hx3.below hb4
  have hy4 := hy3.below hb4
  have hbw4 := below_chain hbw3 hb4
  clear hb4 hp3 hq3 hx3 hy3 hbw3 hC
  obtain ⟨⟨x0, x1, x2, x3⟩, _⟩ := hx4.get4
  obtain ⟨⟨y0, y1, y2, y3⟩, _⟩ := hy4.get4
  obtain ⟨⟨p0, p1, p2, p3⟩, _⟩ := hp4.get4
  obtain ⟨⟨q0, q1, q2, q3⟩, _⟩ := hq4.get4
  clear hx4 hy4 hp4
  go_wp2_with fail
  clear x0 x1 x2 x3 y0 y1 y2 y3 p0 p1 p2 p3 q0 q1 q2 q3
  refine (hS _).out.mono ?_
  rintro e w5 ⟨rfl, hb5⟩
  have hq5 := hq4.below hb5
  have hbw5 := below_chain hbw4 hb5
  clear hb5 hq4 hbw4 hS
  obtain ⟨⟨q0, q1, q2, q3⟩, _⟩ := hq5.get4
  go_wp2_with fail
  refine (hT _).out.mono ?_
  rintro e w6 ⟨rfl, hb6⟩
  have hbw6 := below_chain hbw5 hb6
  clear hb6 q0 q1 q2 q3 hq5 hbw5 hT
  go_wp2_with fail
  refine (hG _ _ rfl).out.mono ?_
  rintro e w7 ⟨rfl, rfl⟩
  go_wp2_with fail
  refine (hA _).out.mono ?_
  rintro e w8 ⟨rfl, k, rfl⟩
  have hbw8 := below_drewN (hbw6.alloc hbw6.size (.cells #[.int .i64 0, .int .i64 0] 25)) k
  go_wp2
  go_ret
  exact ⟨rfl, hbw8⟩

set_option maxHeartbeats 2000000 in
theorem headNext_h (ep : Int) (rt pv : Nat) (tm : Int) (um : Int) (nr : Nat) (at' : Int) (w : World) (hk : NextOk (ep, rt, pv, tm) nr at') (hj : NextOk (ep, rt, pv, um) nr at') (hm : hmark (ep, rt, pv, tm) = hmark (ep, rt, pv, um)) (hd : tm ≠ um) :
    Calls Try.prog 5 #[.agg #[.int .i64 ep, .int .u64 (rt : Int), .int .u64 (pv : Int), .int .i64 tm], .agg #[.int .i64 ep, .int .u64 (rt : Int), .int .u64 (pv : Int), .int .i64 um], .int .u64 (nr : Int), .int .i64 at'] w fun e w' => e = .returned (.bool true) ∧ Below w.heap.size w w' := by
  have hL := fun w => Lib.hid (heads w)
  obtain ⟨q, hqe⟩ : ∃ q, ep + 1 = q := ⟨_, rfl⟩
  obtain ⟨m, hmm⟩ : ∃ m, hmark (ep, rt, pv, tm) = m := ⟨_, rfl⟩
  have hN := fun w => Lib.hid (headNext_ok ep rt pv tm nr at' w hk m hmm q hqe)
  have hC := fun w => Lib.hid (headCheck_next ep rt pv tm nr at' w hk m hmm q hqe)
  have hep : IntKind.i64.wrap (ep + 1) = q := by
    have h1 := hk.g.e0
    have h2 := hk.g.e1
    dsimp only at h1 h2
    rw [IntKind.wrap_i64]
    omega
  have hN2 := fun w => Lib.hid (headNext_ok ep rt pv um nr at' w hj m (hm.symm.trans hmm) q hqe)
  have c1 : (tm == um) = false := beq_eq_false_iff_ne.2 (by omega)
  have c2 : ¬ (tm = um) := by omega
  have c3 := hd
  have hne : hsaid (ep, rt, pv, tm) ≠ hsaid (ep, rt, pv, um) := fun e => by
    have := hsaid_inj hk.g hj.g e
    simp only [Prod.mk.injEq] at this
    omega
  have hS := fun w => Lib.hid (headSaid_yes ep rt pv tm w hk.g _ rfl)
  have hT := fun w => Lib.hid (headSaid_yes ep rt pv um w hj.g _ rfl)
  have hG := fun w g hg => Lib.hid (goods2 0 0 w g 25 hg true rfl)
  have hA := fun w => Lib.hid (markAlike (hsaid (ep, rt, pv, tm)) (hsaid (ep, rt, pv, um)) w (hsaid_le _) (hsaid_le _) true ((alikeB_iff _ _).2 ⟨hne, hm⟩))
  clear hne hm hmm hqe
  generalize hsaid (ep, rt, pv, tm) = s at *
  generalize hsaid (ep, rt, pv, um) = t at *
  have hp := (Bx.new w _ rfl _ [.int .i64 ep, .int .u64 (rt : Int), .int .u64 (pv : Int), .int .i64 tm] 24 rfl).alloc (.cells #[.int .i64 ep, .int .u64 (rt : Int), .int .u64 (pv : Int), .int .i64 um] 24)
  have hq := Bx.new (w.alloc (.cells #[.int .i64 ep, .int .u64 (rt : Int), .int .u64 (pv : Int), .int .i64 tm] 24)) (w.heap.size + 1) (by simp) _ [.int .i64 ep, .int .u64 (rt : Int), .int .u64 (pv : Int), .int .i64 um] 24 rfl
  have hbw : Below w.heap.size w ((w.alloc (.cells #[.int .i64 ep, .int .u64 (rt : Int), .int .u64 (pv : Int), .int .i64 tm] 24)).alloc (.cells #[.int .i64 ep, .int .u64 (rt : Int), .int .u64 (pv : Int), .int .i64 um] 24)) := ((Below.refl _ _).alloc (Nat.le_refl _) _).alloc (by simp) _
  clear hk hj hd
  go_enter Try.func5, Try.ntmps5
  go_wp2_with fail
  refine (hL _).out.mono ?_
  rintro e w1 ⟨rfl, hb1⟩
  have hp1 := hp.below hb1
  have hq1 := hq.below hb1
  have hbw1 := below_chain hbw hb1
  clear hp hq hbw hb1 hL
  obtain ⟨⟨z0, z1, z2, z3⟩, _⟩ := hp1.get4
  go_wp2_with fail
  clear z0 z1 z2 z3
  refine (hN _).out.mono ?_
  rintro e w2 ⟨rfl, hb2⟩
  have hp2 := (hp1.below hb2).alloc (.cells #[.int .i64 q, .int .u64 (nr : Int), .int .u64 (m : Int), .int .i64 at'] 24)
  have hq2 := (hq1.below hb2).alloc (.cells #[.int .i64 q, .int .u64 (nr : Int), .int .u64 (m : Int), .int .i64 at'] 24)
  have hx2 := Bx.new w2 _ rfl _ [.int .i64 q, .int .u64 (nr : Int), .int .u64 (m : Int), .int .i64 at'] 24 rfl
  have hbw2' := below_chain hbw1 hb2
  have hbw2 := hbw2'.alloc hbw2'.size (.cells #[.int .i64 q, .int .u64 (nr : Int), .int .u64 (m : Int), .int .i64 at'] 24)
  clear hb2 hp1 hq1 hbw1 hbw2' hN
  obtain ⟨⟨z0, z1, z2, z3⟩, _⟩ := hq2.get4
  go_wp2_with fail
  clear z0 z1 z2 z3
  generalize w2.alloc (.cells #[.int .i64 q, .int .u64 (nr : Int), .int .u64 (m : Int), .int .i64 at'] 24) = v2 at *
  generalize w2.heap.size = g2 at *
  refine (hN2 _).out.mono ?_
  rintro e w3 ⟨rfl, hb3⟩
  have hp3 := (hp2.below hb3).alloc (.cells #[.int .i64 q, .int .u64 (nr : Int), .int .u64 (m : Int), .int .i64 at'] 24)
  have hq3 := (hq2.below hb3).alloc (.cells #[.int .i64 q, .int .u64 (nr : Int), .int .u64 (m : Int), .int .i64 at'] 24)
  have hx3 := (hx2.below hb3).alloc (.cells #[.int .i64 q, .int .u64 (nr : Int), .int .u64 (m : Int), .int .i64 at'] 24)
  have hy3 := Bx.new w3 _ rfl _ [.int .i64 q, .int .u64 (nr : Int), .int .u64 (m : Int), .int .i64 at'] 24 rfl
  have hbw3' := below_chain hbw2 hb3
  have hbw3 := hbw3'.alloc hbw3'.size (.cells #[.int .i64 q, .int .u64 (nr : Int), .int .u64 (m : Int), .int .i64 at'] 24)
  clear hb3 hp2 hq2 hx2 hbw2 hbw3' hN2
  obtain ⟨⟨z0, z1, z2, z3⟩, _⟩ := hx3.get4
  go_wp2_with fail
  clear z0 z1 z2 z3
  generalize w3.alloc (.cells #[.int .i64 q, .int .u64 (nr : Int), .int .u64 (m : Int), .int .i64 at'] 24) = v3 at *
  generalize w3.heap.size = g3 at *
  refine (hC _).out.mono ?_
  rintro e w4 ⟨rfl, hb4⟩
  have hp4 := hp3.below hb4
  have hq4 := hq3.below hb4
  have hx4 := hx3.below hb4
  have hy4 := hy3.below hb4
  have hbw4 := below_chain hbw3 hb4
  clear hb4 hp3 hq3 hx3 hy3 hbw3 hC
  obtain ⟨⟨x0, x1, x2, x3⟩, _⟩ := hx4.get4
  obtain ⟨⟨y0, y1, y2, y3⟩, _⟩ := hy4.get4
  obtain ⟨⟨p0, p1, p2, p3⟩, _⟩ := hp4.get4
  obtain ⟨⟨q0, q1, q2, q3⟩, _⟩ := hq4.get4
  clear hx4 hy4 hp4
  go_wp2_with fail
  clear x0 x1 x2 x3 y0 y1 y2 y3 p0 p1 p2 p3 q0 q1 q2 q3
  refine (hS _).out.mono ?_
  rintro e w5 ⟨rfl, hb5⟩
  have hq5 := hq4.below hb5
  have hbw5 := below_chain hbw4 hb5
  clear hb5 hq4 hbw4 hS
  obtain ⟨⟨q0, q1, q2, q3⟩, _⟩ := hq5.get4
  go_wp2_with fail
  refine (hT _).out.mono ?_
  rintro e w6 ⟨rfl, hb6⟩
  have hbw6 := below_chain hbw5 hb6
  clear hb6 q0 q1 q2 q3 hq5 hbw5 hT
  go_wp2_with fail
  refine (hG _ _ rfl).out.mono ?_
  rintro e w7 ⟨rfl, rfl⟩
  go_wp2_with fail
  refine (hA _).out.mono ?_
  rintro e w8 ⟨rfl, k, rfl⟩
  have hbw8 := below_drewN (hbw6.alloc hbw6.size (.cells #[.int .i64 0, .int .i64 0] 25)) k
  go_wp2
  go_ret
  exact ⟨rfl, hbw8⟩

theorem headNext_walk (ep : Int) (rt pv : Nat) (tm : Int) (fp : Int) (st qv : Nat) (um : Int) (nr : Nat) (at' : Int) (w : World) :
    Calls Try.prog 5 #[.agg #[.int .i64 ep, .int .u64 (rt : Int), .int .u64 (pv : Int), .int .i64 tm], .agg #[.int .i64 fp, .int .u64 (st : Int), .int .u64 (qv : Int), .int .i64 um], .int .u64 (nr : Int), .int .i64 at'] w fun e w' => e = .returned (.bool true) ∧ Below w.heap.size w w' := by
  by_cases h : nextErr (ep, rt, pv, tm) nr at' = 0
  · have hk := (nextErr_ok _ _ _).1 h
    by_cases h2 : nextErr (fp, st, qv, um) nr at' = 0
    · have hj := (nextErr_ok _ _ _).1 h2
      by_cases h3 : ep = fp
      · subst h3
        by_cases hm : hmark (ep, rt, pv, tm) = hmark (ep, st, qv, um)
        · by_cases h4 : rt = st
          · subst h4
            by_cases h5 : pv = qv
            · subst h5
              by_cases h6 : tm = um
              · subst h6
                exact headNext_e ep rt pv tm nr at' w hk
              · exact headNext_h ep rt pv tm um nr at' w hk hj hm h6
            · exact headNext_g ep rt pv tm qv um nr at' w hk hj hm h5
          · exact headNext_f ep rt pv tm st qv um nr at' w hk hj hm h4
        · exact headNext_d ep rt pv tm st qv um nr at' w hk hj hm
      · exact headNext_c ep rt pv tm fp st qv um nr at' w hk hj h3
    · exact headNext_b ep rt pv tm fp st qv um nr at' w hk _ rfl h2
  · exact headNext_a ep rt pv tm fp st qv um nr at' w _ rfl h

set_option maxRecDepth 100000 in
theorem headNext_lifted (os : Os) (started : os.Started) (H : Type) (enc : TypeId × Value → H) :
    ReturnsInHanded {} Try.checked os 5 .any (Rows.headNextSpec.pre6 enc Try.prog Try.f5 Rows.headNextRow.domain false) (Rows.headNextSpec.post enc Try.prog Try.f5 false true false false) := by
  refine returnsInHanded_of_change (C := Try.checked) own started (by kernel_rfl) Try.func5
    (ChangeSpec.witness6 (enc := enc) (C := Try.checked) false ⟨#[], #[.agg #[.int .i64 0, .int .u64 0, .int .u64 0, .int .i64 0], .agg #[.int .i64 0, .int .u64 0, .int .u64 0, .int .i64 0], .int .u64 0, .int .i64 0], []⟩ 8 (by kernel_rfl) (by kernel_rfl) (by kernel_rfl) (by kernel_rfl)) ?_
  intro W base args ds gs before hval0 hW hcnd _
  have hval : ∀ (j : Nat) t v, Try.f5.params[j]? = some t → args[j]? = some v → Value.okWide Try.prog W .any base t v := hval0
  have hW' := hW
  obtain ⟨p, q, hA0, hV, rfl, hfz, hnd⟩ := hW
  have hA : DataW.TrodAll enc Try.prog W 0 (fun _ => true) true Try.f5.params.toList args.toList ds p := hA0
  rw [Try.params5] at hA hval
  obtain ⟨v0, vs0, d0, ds0, p0, q0, hargs, rfl, rfl, h0, r0⟩ := trodAll_cons hA
  obtain ⟨v1, vs1, d1, ds1, p1, q1, rfl, rfl, rfl, h1, r1⟩ := trodAll_cons r0
  obtain ⟨v2, vs2, d2, ds2, p2, q2, rfl, rfl, rfl, h2, r2⟩ := trodAll_cons r1
  obtain ⟨v3, vs3, d3, ds3, p3, q3, rfl, rfl, rfl, h3, r3⟩ := trodAll_cons r2
  obtain ⟨rfl, rfl, rfl⟩ := trodAll_nil r3
  obtain rfl : args = #[v0, v1, v2, v3] := by cases args; simp_all
  obtain ⟨rfl, rfl⟩ := trodVars_none hV
  obtain ⟨ep0, rt0, pv0, tm0, rfl, hep0, hrt0, hpv0, htm0⟩ := arg_head (hval 0 24 v0 rfl rfl) h0
  obtain ⟨ep1, rt1, pv1, tm1, rfl, hep1, hrt1, hpv1, htm1⟩ := arg_head (hval 1 24 v1 rfl rfl) h1
  obtain ⟨n2, rfl, hn2⟩ := arg_u64 (hval 2 22 v2 rfl rfl) h2
  obtain ⟨x3, rfl, hx3, hy3⟩ := arg_int64 (hval 3 2 v3 rfl rfl) h3
  refine (headNext_walk ep0 rt0 pv0 tm0 ep1 rt1 pv1 tm1 n2 x3 W).mono fun e W' ⟨he, hb⟩ => ?_
  subst he
  exact ⟨_, rfl, post_law laidOut (by decide +kernel) rfl Try.underlying4 (by kernel_rfl) hW' rfl hb⟩

/-- The statement. -/
theorem headNext_said : Rows.HeadNextSaid :=
  OpenClaim.holds_of_wide 5 Try.f5 rfl rfl rfl rfl rfl rfl rfl ⟨rfl, rfl, rfl, rfl, rfl⟩ rfl rfl rfl rfl rfl (by kernel_rfl) Try.func5 (by kernel_rfl)
    (of_decide_eq_true (by kernel_rfl)) (by unfold Func.isWrapper; first | (rw [if_pos (by decide +kernel)]; kernel_rfl) | (rw [if_neg (by decide +kernel)]; exact ⟨rfl, rfl⟩))
    (fun os started H enc _ => headNext_lifted os started H enc)
#print axioms headNext_said
end Go.Proofs.Ytmlgolnfegaihaa
