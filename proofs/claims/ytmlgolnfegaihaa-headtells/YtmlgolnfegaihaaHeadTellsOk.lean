/- The law HeadTells returns true, one case of five (Ok). -/
import Derived.Test.YtmlgolnfegaihaaHeadAny
import Derived.Deep.DeepCutAuto
import Derived.Deep.RegionHeld3
import Derived.Deep.RegionWith
namespace Go.Proofs.Ytmlgolnfegaihaa
set_option maxRecDepth 100000
open Go.RowKit

set_option maxHeartbeats 4000000 in
theorem headTells_Ok (ep : Int) (rt pv : Nat) (tm : Int) (nr : Nat) (at' : Int) (l : Bytes) (w : World) (hk : NextOk (ep, rt, pv, tm) nr at') :
    Calls Try.prog 3 #[.agg #[.int .i64 ep, .int .u64 (rt : Int), .int .u64 (pv : Int), .int .i64 tm], .int .u64 (nr : Int), .int .i64 at', .string (S l)] w fun e w' => e = .returned (.bool true) ∧ Below w.heap.size w w' := by
  have h := hk.g
  have hS := fun w => Lib.hid (headSaid_yes ep rt pv tm w h _ rfl)
  have hRS := fun w => Lib.hid (refHSaid_good ep rt pv tm w h _ rfl)
  obtain ⟨m, hmm⟩ : ∃ m, hmark (ep, rt, pv, tm) = m := ⟨_, rfl⟩
  have hM := fun w => Lib.hid (headMark_yes ep rt pv tm w h m hmm)
  have hRM := fun w => Lib.hid (refHMark ep rt pv tm w h m hmm)
  have hC := fun w => Lib.hid (headCheck ep rt pv tm w 0 ((hfault_ok _).2 h))
  have hF := fun w => Lib.hid (refHFault ep rt pv tm w 0 ((hfault_ok _).2 h))
  obtain ⟨q, hqe⟩ : ∃ q, ep + 1 = q := ⟨_, rfl⟩
  have hN := fun w => Lib.hid (headNext_ok ep rt pv tm nr at' w hk m hmm q hqe)
  have hep : IntKind.i64.wrap (ep + 1) = q := by
    have h1 := h.e0
    have h2 := h.e1
    dsimp only at h1 h2
    rw [IntKind.wrap_i64]
    omega
  have hnr := hk.r
  have he : ¬ ep = 1000000 := hk.e
  have ht1 : tm ≤ at' := hk.t.1
  have ht2 : at' ≤ 1000000000 := hk.t.2
  have c1 : (ep == 1000000) = false := beq_eq_false_iff_ne.2 he
  have c2 : decide ((2305843009213693951 : Int) ≤ (nr : Int)) = false := decide_eq_false (by omega)
  have c3 : decide (at' < tm) = false := decide_eq_false (by omega)
  have c4 : decide (1000000000 < at') = false := decide_eq_false (by omega)
  have c5 : ¬ (at' < tm) := by omega
  have c6 : ¬ (1000000000 < at') := by omega
  clear h hk hmm hqe hnr ht1 ht2
  generalize hsaid (ep, rt, pv, tm) = s at *
  obtain ⟨a, b, g, hX, hg, hXc⟩ := headFirst_any nr at'
  have hXF := fun w => Lib.hid (refHFault 0 nr 0 at' w g hg)
  have HXc := Lib.hid hXc
  have hX := fun w => Lib.hid (hX w)
  obtain ⟨fp, st, qv, um, k, hR, hRc⟩ := headRead_any l
  have HRc := Lib.hid hRc
  have hR := fun w => Lib.hid (hR w)
  clear hg hXc hRc
  have hh := Bx.new w _ rfl _ [.int .i64 ep, .int .u64 (rt : Int), .int .u64 (pv : Int), .int .i64 tm] 24 rfl
  have hbw : Below w.heap.size w (w.alloc (.cells #[.int .i64 ep, .int .u64 (rt : Int), .int .u64 (pv : Int), .int .i64 tm] 24)) := (Below.refl _ _).alloc (Nat.le_refl _) _
  obtain ⟨⟨z0, z1, z2, z3⟩, _⟩ := hh.get4
  go_enter Try.func3, Try.ntmps3
  go_wp2_with fail
  clear z0 z1 z2 z3
  refine (hS _).out.mono ?_
  rintro e w1 ⟨rfl, hb⟩
  have hh := hh.below hb
  have hbw := below_chain hbw hb
  clear hb hS
  obtain ⟨⟨z0, z1, z2, z3⟩, _⟩ := hh.get4
  go_wp2_with fail
  clear z0 z1 z2 z3
  refine (hM _).out.mono ?_
  rintro e w2 ⟨rfl, hb⟩
  have hh := hh.below hb
  have hbw := below_chain hbw hb
  clear hb hM
  go_wp2_with fail
  refine (hX _).out.mono ?_
  rintro e w3 ⟨rfl, hb⟩
  have hh := hh.below hb
  have hbw := below_chain hbw hb
  clear hb hX
  have hh := hh.alloc (.cells #[.int .i64 0, .int .u64 (a : Int), .int .u64 0, .int .i64 b] 24)
  have hx := Bx.new w3 _ rfl _ [.int .i64 0, .int .u64 (a : Int), .int .u64 0, .int .i64 b] 24 rfl
  have hbw := hbw.alloc hbw.size (.cells #[.int .i64 0, .int .u64 (a : Int), .int .u64 0, .int .i64 b] 24)
  obtain ⟨⟨z0, z1, z2, z3⟩, _⟩ := hh.get4
  go_wp2_with fail
  clear z0 z1 z2 z3
  generalize w3.alloc (.cells #[.int .i64 0, .int .u64 (a : Int), .int .u64 0, .int .i64 b] 24) = v3 at *
  generalize w3.heap.size = gx at *
  refine (hN _).out.mono ?_
  rintro e w4 ⟨rfl, hb⟩
  have hh := hh.below hb
  have hx := hx.below hb
  have hbw := below_chain hbw hb
  clear hb hN
  have hh := hh.alloc (.cells #[.int .i64 q, .int .u64 (nr : Int), .int .u64 (m : Int), .int .i64 at'] 24)
  have hx := hx.alloc (.cells #[.int .i64 q, .int .u64 (nr : Int), .int .u64 (m : Int), .int .i64 at'] 24)
  have hy := Bx.new w4 _ rfl _ [.int .i64 q, .int .u64 (nr : Int), .int .u64 (m : Int), .int .i64 at'] 24 rfl
  have hbw := hbw.alloc hbw.size (.cells #[.int .i64 q, .int .u64 (nr : Int), .int .u64 (m : Int), .int .i64 at'] 24)
  go_wp2_with fail
  generalize w4.alloc (.cells #[.int .i64 q, .int .u64 (nr : Int), .int .u64 (m : Int), .int .i64 at'] 24) = v4 at *
  generalize w4.heap.size = gy at *
  refine (hR _).out.mono ?_
  rintro e w5 ⟨rfl, hb⟩
  have hh := hh.below hb
  have hx := hx.below hb
  have hy := hy.below hb
  have hbw := below_chain hbw hb
  clear hb hR
  have hh := hh.alloc (.cells #[.int .i64 fp, .int .u64 (st : Int), .int .u64 (qv : Int), .int .i64 um] 24)
  have hx := hx.alloc (.cells #[.int .i64 fp, .int .u64 (st : Int), .int .u64 (qv : Int), .int .i64 um] 24)
  have hy := hy.alloc (.cells #[.int .i64 fp, .int .u64 (st : Int), .int .u64 (qv : Int), .int .i64 um] 24)
  have hz := Bx.new w5 _ rfl _ [.int .i64 fp, .int .u64 (st : Int), .int .u64 (qv : Int), .int .i64 um] 24 rfl
  have hbw := hbw.alloc hbw.size (.cells #[.int .i64 fp, .int .u64 (st : Int), .int .u64 (qv : Int), .int .i64 um] 24)
  obtain ⟨⟨z0, z1, z2, z3⟩, _⟩ := hh.get4
  go_wp2_with fail
  clear z0 z1 z2 z3
  generalize w5.alloc (.cells #[.int .i64 fp, .int .u64 (st : Int), .int .u64 (qv : Int), .int .i64 um] 24) = v5 at *
  generalize w5.heap.size = gz at *
  refine (hF _).out.mono ?_
  rintro e w6 ⟨rfl, hb⟩
  have hh := hh.below hb
  have hx := hx.below hb
  have hy := hy.below hb
  have hz := hz.below hb
  have hbw := below_chain hbw hb
  clear hb hF
  obtain ⟨⟨z0, z1, z2, z3⟩, _⟩ := hh.get4
  go_wp2_with fail
  clear z0 z1 z2 z3
  refine (hC _).out.mono ?_
  rintro e w7 ⟨rfl, hb⟩
  have hh := hh.below hb
  have hx := hx.below hb
  have hy := hy.below hb
  have hz := hz.below hb
  have hbw := below_chain hbw hb
  clear hb hC
  obtain ⟨⟨z0, z1, z2, z3⟩, _⟩ := hh.get4
  go_wp2_with fail
  clear z0 z1 z2 z3
  refine (hRS _).out.mono ?_
  rintro e w8 ⟨rfl, hb⟩
  have hh := hh.below hb
  have hx := hx.below hb
  have hy := hy.below hb
  have hz := hz.below hb
  have hbw := below_chain hbw hb
  clear hb hRS
  obtain ⟨⟨z0, z1, z2, z3⟩, _⟩ := hh.get4
  go_wp2_with fail
  clear z0 z1 z2 z3
  refine (hRM _).out.mono ?_
  rintro e w9 ⟨rfl, hb⟩
  have hh := hh.below hb
  have hx := hx.below hb
  have hy := hy.below hb
  have hz := hz.below hb
  have hbw := below_chain hbw hb
  clear hb
  have hf := Bx.new w9 _ rfl _ [.int .i64 0, .int .u64 (nr : Int), .int .u64 0, .int .i64 at'] 24 rfl
  have hh := hh.alloc (.cells #[.int .i64 0, .int .u64 (nr : Int), .int .u64 0, .int .i64 at'] 24)
  have hx := hx.alloc (.cells #[.int .i64 0, .int .u64 (nr : Int), .int .u64 0, .int .i64 at'] 24)
  have hy := hy.alloc (.cells #[.int .i64 0, .int .u64 (nr : Int), .int .u64 0, .int .i64 at'] 24)
  have hz := hz.alloc (.cells #[.int .i64 0, .int .u64 (nr : Int), .int .u64 0, .int .i64 at'] 24)
  have hbw := hbw.alloc hbw.size (.cells #[.int .i64 0, .int .u64 (nr : Int), .int .u64 0, .int .i64 at'] 24)
  obtain ⟨⟨z0, z1, z2, z3⟩, _⟩ := hf.get4
  go_wp2_with fail
  clear z0 z1 z2 z3
  generalize w9.alloc (.cells #[.int .i64 0, .int .u64 (nr : Int), .int .u64 0, .int .i64 at'] 24) = v9 at *
  generalize w9.heap.size = gf at *
  refine (hXF _).out.mono ?_
  rintro e wa ⟨rfl, hb⟩
  have hh := hh.below hb
  have hx := hx.below hb
  have hy := hy.below hb
  have hz := hz.below hb
  have hf := hf.below hb
  have hbw := below_chain hbw hb
  clear hb hXF
  go_upto_region 11 with fail
  go_cut [122] (fun bb wc => bb = .bool false ∧ wc = wa)
  case first =>
    obtain ⟨⟨x0, x1, x2, x3⟩, _⟩ := hx.get4
    obtain ⟨⟨f0, f1, f2, f3⟩, _⟩ := hf.get4
    rcases HXc.out with ⟨rfl, rfl, rfl⟩ | ⟨hg0, rfl, rfl⟩
    · go_wp2
      go_meet
      case rel => exact ⟨rfl, rfl⟩
    · have d1 : (g == 0) = false := beq_eq_false_iff_ne.2 hg0
      have d2 : (g != 0) = true := bne_iff_ne.2 hg0
      go_wp2
      go_meet
      case rel => exact ⟨rfl, rfl⟩
  case rest =>
    have hw := hcut.2.symm
    have hbb := hcut.1
    subst hw
    subst hbb
    clear hcut hx hf HXc
    have ny := hy.lt
    have nz := hz.lt
    have nh := hh.lt
    have nw := hbw.size
    have hn := Bx.new wa _ rfl _ [.int .i64 0, .int .u64 0, .int .u64 0, .int .i64 0] 24 rfl
    have hh := hh.alloc (.cells #[.int .i64 0, .int .u64 0, .int .u64 0, .int .i64 0] 24)
    have hy := hy.alloc (.cells #[.int .i64 0, .int .u64 0, .int .u64 0, .int .i64 0] 24)
    have hz := hz.alloc (.cells #[.int .i64 0, .int .u64 0, .int .u64 0, .int .i64 0] 24)
    have hbw := hbw.alloc hbw.size (.cells #[.int .i64 0, .int .u64 0, .int .u64 0, .int .i64 0] 24)
    obtain ⟨⟨p0, p1, p2, p3⟩, _⟩ := hh.get4
    go_upto_region 14 with fail
    clear p0 p1 p2 p3
    generalize wa.alloc (.cells #[.int .i64 0, .int .u64 0, .int .u64 0, .int .i64 0] 24) = vq at *
    generalize wa.heap.size = gn at *
    have q4 := hh.drewN 1
    have q5 := hy.drewN 1
    have q6 := hz.drewN 1
    have q7 := hn.drewN 1
    have q8 := bdrew hbw
    obtain ⟨⟨q0, q1, q2, q3⟩, _⟩ := hh.get4
    clear hh hy hz hn hbw
    go_region_with (go_at_call 14; refine (hRM _).out.mono ?_; rintro e w' ⟨rfl, hb⟩; have k4 := q4.below hb; have k5 := q5.below hb; have k6 := q6.below hb; have k7 := q7.below hb; have k8 := below_chain q8 hb; clear hb; obtain ⟨⟨k0, k1, k2, k3⟩, _⟩ := k4.get4; obtain ⟨⟨n0, n1, n2, n3⟩, ⟨f0, f1, f2, f3⟩⟩ := k7.get4)
    all_goals
      have hn := k7.set4 (.int .i64 q) (.int .u64 (nr : Int)) (.int .u64 (m : Int)) (.int .i64 at')
      have hh := k4.set4_far (Nat.ne_of_lt nh) (.int .i64 q) (.int .u64 (nr : Int)) (.int .u64 (m : Int)) (.int .i64 at')
      have hy := k5.set4_far (Nat.ne_of_lt ny) (.int .i64 q) (.int .u64 (nr : Int)) (.int .u64 (m : Int)) (.int .i64 at')
      have hz := k6.set4_far (Nat.ne_of_lt nz) (.int .i64 q) (.int .u64 (nr : Int)) (.int .u64 (m : Int)) (.int .i64 at')
      have hbw := below_set4 k8 nw (.int .i64 q) (.int .u64 (nr : Int)) (.int .u64 (m : Int)) (.int .i64 at')
      generalize ((((w'.setCell ⟨gn, 0, none⟩ (.int .i64 q)).setCell ⟨gn, 1, none⟩ (.int .u64 (nr : Int))).setCell ⟨gn, 2, none⟩ (.int .u64 (m : Int))).setCell ⟨gn, 3, none⟩ (.int .i64 at')) = v8 at *
      clear k0 k1 k2 k3 k4 k5 k6 k7 k8 n0 n1 n2 n3 f0 f1 f2 f3 q0 q1 q2 q3 q4 q5 q6 q7 q8 hRM nh ny nz nw
      rcases HRc.out with ⟨rfl, hRt, hnum⟩ | ⟨rfl, hnr, rfl, rfl, rfl, rfl⟩
      · clear HRc
        have hF2 := fun w => Lib.hid (refHFault fp st qv um w 0 (by rw [← hnum]; exact hRt.ok))
        have hS2 := fun w => Lib.hid (refHSaid_good fp st qv um w ((hfault_ok _).1 (by rw [← hnum]; exact hRt.ok)) l (by rw [← hnum]; exact hsaid_nums hRt))
        clear hRt hnum
        obtain ⟨⟨p0, p1, p2, p3⟩, _⟩ := hh.get4
        obtain ⟨⟨y0, y1, y2, y3⟩, _⟩ := hy.get4
        obtain ⟨⟨z0, z1, z2, z3⟩, _⟩ := hz.get4
        obtain ⟨⟨n0, n1, n2, n3⟩, _⟩ := hn.get4
        go_wp2_with fail
        clear p0 p1 p2 p3
        clear y0 y1 y2 y3
        clear z0 z1 z2 z3
        clear n0 n1 n2 n3
        refine (hF2 _).out.mono ?_
        rintro e wb ⟨rfl, hb⟩
        have hh := hh.below hb
        have hy := hy.below hb
        have hz := hz.below hb
        have hn := hn.below hb
        have hbw := below_chain hbw hb
        clear hb hF2
        obtain ⟨⟨z0, z1, z2, z3⟩, _⟩ := hz.get4
        go_wp2_with fail
        clear z0 z1 z2 z3
        refine (hS2 _).out.mono ?_
        rintro e wd ⟨rfl, hb⟩
        have hh := hh.below hb
        have hy := hy.below hb
        have hz := hz.below hb
        have hn := hn.below hb
        have hbw := below_chain hbw hb
        clear hb hS2
        go_wp2
        go_ret
        exact ⟨rfl, hbw⟩
      · clear HRc
        by_cases hl : l.length = 33
        rotate_left
        · have l1 : ((l.length : Int) != 33) = true := by simp; omega
          clear hl hnr
          obtain ⟨⟨p0, p1, p2, p3⟩, _⟩ := hh.get4
          obtain ⟨⟨y0, y1, y2, y3⟩, _⟩ := hy.get4
          obtain ⟨⟨z0, z1, z2, z3⟩, _⟩ := hz.get4
          obtain ⟨⟨n0, n1, n2, n3⟩, _⟩ := hn.get4
          go_wp2
          go_ret
          exact ⟨rfl, hbw⟩
        have l1 : ((l.length : Int) != 33) = false := by simp; omega
        have l0 : (0 : Nat) < l.length := by omega
        by_cases hc : l[0].toNat = 3
        rotate_left
        · have l3 : ((l[0].toNat : Int) != 3) = true := by simp; omega
          have l4 : ¬ ((l[0].toNat : Int) = 3) := by omega
          have l5 : ((l[0].toNat : Int) == 3) = false := beq_eq_false_iff_ne.2 l4
          clear hl hnr hc
          obtain ⟨⟨p0, p1, p2, p3⟩, _⟩ := hh.get4
          obtain ⟨⟨y0, y1, y2, y3⟩, _⟩ := hy.get4
          obtain ⟨⟨z0, z1, z2, z3⟩, _⟩ := hz.get4
          obtain ⟨⟨n0, n1, n2, n3⟩, _⟩ := hn.get4
          go_wp2
          go_ret
          exact ⟨rfl, hbw⟩
        have hk1 : l.take 1 = [3] := by
          cases l with
          | nil => simp at l0
          | cons c t => simp only [List.getElem_cons_zero] at hc; simp only [List.take_succ_cons, List.take_zero, List.cons.injEq, and_true]; exact UInt8.toNat_inj.1 hc
        have hbad : hfault (hnums l) ≠ 0 := fun h3 => hnr ⟨hl, hk1, h3⟩
        obtain ⟨⟨p0, n1, n2, p3⟩, hnu⟩ : ∃ x, hnums l = x := ⟨_, rfl⟩
        rw [hnu] at hbad
        have l3 : ((l[0].toNat : Int) != 3) = false := by simp; omega
        have l4 : ((l[0].toNat : Int) = 3) := by omega
        have l5 : ((l[0].toNat : Int) == 3) = true := beq_iff_eq.2 l4
        have c4 : (9 : Nat) ≤ l.length := by omega
        have c5' : (17 : Nat) ≤ l.length := by omega
        have c6' : (25 : Nat) ≤ l.length := by omega
        have c7' : (33 : Nat) ≤ l.length := by omega
        have hNR : ∀ (t : Bytes), t.length = 8 → ∀ w : World, Hid (Calls Try.prog 15 #[.string (S t)] w fun e' w' => e' = .returned (.tuple #[.int .u64 (num8 t), .bool true]) ∧ Below w.heap.size w w') := fun t ht w => Lib.hid ((numRead_yes t w ht).mono fun e w' k => ⟨k.1, by rw [← k.2]; exact Below.refl _ _⟩)
        have hR0 := hNR (l.tail.take 8) (by simp; omega)
        have hR1 := hNR ((l.drop 9).take 8) (by simp; omega)
        have hR2 := hNR ((l.drop 17).take 8) (by simp; omega)
        have hR3 := hNR ((l.drop 25).take 8) (by simp; omega)
        have hF3 := fun w => Lib.hid (refHFault p0 n1 n2 p3 w _ rfl)
        simp only [hnums, Prod.mk.injEq] at hnu
        obtain ⟨i0, i1, i2, i3⟩ := hnu
        rw [i1] at hR1
        rw [i2] at hR2
        have d1 : (hfault (p0, n1, n2, p3) == 0) = false := beq_eq_false_iff_ne.2 hbad
        have d2 : (hfault (p0, n1, n2, p3) != 0) = true := bne_iff_ne.2 hbad
        generalize hfault (p0, n1, n2, p3) = rr at *
        generalize num8 (l.tail.take 8) = n0 at *
        generalize num8 ((l.drop 25).take 8) = n3 at *
        clear hnr hl hc hk1 i1 i2 hNR hbad
        obtain ⟨⟨p0, p1, p2, p3⟩, _⟩ := hh.get4
        obtain ⟨⟨y0, y1, y2, y3⟩, _⟩ := hy.get4
        obtain ⟨⟨z0, z1, z2, z3⟩, _⟩ := hz.get4
        obtain ⟨⟨n0, n1, n2, n3⟩, _⟩ := hn.get4
        go_upto_region 28 with fail
        clear p0 p1 p2 p3
        clear y0 y1 y2 y3
        clear z0 z1 z2 z3
        clear n0 n1 n2 n3
        clear hh hy hz hn
        have hga : w.heap.size ≤ v8.heap.size := hbw.size
        have hr := Bx.new v8 _ rfl _ [.int .u64 0, .int .u64 0, .int .u64 0, .int .u64 0] 37 rfl
        have hbw := hbw.alloc hbw.size (.cells #[.int .u64 0, .int .u64 0, .int .u64 0, .int .u64 0] 37)
        go_wp2_with fail
        generalize v8.alloc (.cells #[.int .u64 0, .int .u64 0, .int .u64 0, .int .u64 0] 37) = u0 at *
        generalize v8.heap.size = ga at *
        refine wp_loop_rounds 5 ?_
        rw [rounds_succ]
        go_wp2_with fail
        refine (hR0 _).out.mono ?_
        rintro e ww0 ⟨rfl, hb⟩
        have hr := hr.below hb
        have hbw := below_chain hbw hb
        clear hb hR0
        obtain ⟨⟨y0, y1, y2, y3⟩, ⟨f0, f1, f2, f3⟩⟩ := hr.get4
        have hr : Bx (ww0.setCell ⟨ga, 0, none⟩ (.int .u64 (n0 : Int))) ga [.int .u64 (n0 : Int), .int .u64 0, .int .u64 0, .int .u64 0] := hr.set 0 (.int .u64 (n0 : Int))
        have hbw := hbw.setCell (p := ⟨ga, 0, none⟩) hga (.int .u64 (n0 : Int))
        go_wp2_with fail
        clear y0 y1 y2 y3 f0 f1 f2 f3
        rw [rounds_succ]
        go_wp2_with fail
        generalize ww0.setCell ⟨ga, 0, none⟩ (.int .u64 (n0 : Int)) = u1 at *
        refine (hR1 _).out.mono ?_
        rintro e ww1 ⟨rfl, hb⟩
        have hr := hr.below hb
        have hbw := below_chain hbw hb
        clear hb hR1
        obtain ⟨⟨y0, y1, y2, y3⟩, ⟨f0, f1, f2, f3⟩⟩ := hr.get4
        have hr : Bx (ww1.setCell ⟨ga, 1, none⟩ (.int .u64 (n1 : Int))) ga [.int .u64 (n0 : Int), .int .u64 (n1 : Int), .int .u64 0, .int .u64 0] := hr.set 1 (.int .u64 (n1 : Int))
        have hbw := hbw.setCell (p := ⟨ga, 1, none⟩) hga (.int .u64 (n1 : Int))
        go_wp2_with fail
        clear y0 y1 y2 y3 f0 f1 f2 f3
        rw [rounds_succ]
        go_wp2_with fail
        generalize ww1.setCell ⟨ga, 1, none⟩ (.int .u64 (n1 : Int)) = u2 at *
        refine (hR2 _).out.mono ?_
        rintro e ww2 ⟨rfl, hb⟩
        have hr := hr.below hb
        have hbw := below_chain hbw hb
        clear hb hR2
        obtain ⟨⟨y0, y1, y2, y3⟩, ⟨f0, f1, f2, f3⟩⟩ := hr.get4
        have hr : Bx (ww2.setCell ⟨ga, 2, none⟩ (.int .u64 (n2 : Int))) ga [.int .u64 (n0 : Int), .int .u64 (n1 : Int), .int .u64 (n2 : Int), .int .u64 0] := hr.set 2 (.int .u64 (n2 : Int))
        have hbw := hbw.setCell (p := ⟨ga, 2, none⟩) hga (.int .u64 (n2 : Int))
        go_wp2_with fail
        clear y0 y1 y2 y3 f0 f1 f2 f3
        rw [rounds_succ]
        go_wp2_with fail
        generalize ww2.setCell ⟨ga, 2, none⟩ (.int .u64 (n2 : Int)) = u3 at *
        refine (hR3 _).out.mono ?_
        rintro e ww3 ⟨rfl, hb⟩
        have hr := hr.below hb
        have hbw := below_chain hbw hb
        clear hb hR3
        obtain ⟨⟨y0, y1, y2, y3⟩, ⟨f0, f1, f2, f3⟩⟩ := hr.get4
        have hr : Bx (ww3.setCell ⟨ga, 3, none⟩ (.int .u64 (n3 : Int))) ga [.int .u64 (n0 : Int), .int .u64 (n1 : Int), .int .u64 (n2 : Int), .int .u64 (n3 : Int)] := hr.set 3 (.int .u64 (n3 : Int))
        have hbw := hbw.setCell (p := ⟨ga, 3, none⟩) hga (.int .u64 (n3 : Int))
        go_wp2_with fail
        clear y0 y1 y2 y3 f0 f1 f2 f3
        rw [rounds_succ]
        generalize ww3.setCell ⟨ga, 3, none⟩ (.int .u64 (n3 : Int)) = u4 at *
        obtain ⟨⟨y0, y1, y2, y3⟩, _⟩ := hr.get4
        clear c4 c5' c6' c7' l0 l1 l3 l4 l5
        by_cases b0 : 1000000 < n0
        · have b0i : decide ((1000000 : Int) < (n0 : Int)) = true := decide_eq_true (by omega)
          go_wp2
          go_ret
          exact ⟨rfl, hbw⟩
        have b0i : decide ((1000000 : Int) < (n0 : Int)) = false := decide_eq_false (by omega)
        by_cases b3 : 1000000000 < n3
        · have b3i : decide ((1000000000 : Int) < (n3 : Int)) = true := decide_eq_true (by omega)
          go_wp2
          go_ret
          exact ⟨rfl, hbw⟩
        have b3i : decide ((1000000000 : Int) < (n3 : Int)) = false := decide_eq_false (by omega)
        go_wp2_with fail
        refine (hF3 _).out.mono ?_
        rintro e wz ⟨rfl, hb⟩
        have hbw := below_chain hbw hb
        clear hb hF3 y0 y1 y2 y3
        go_wp2
        go_ret
        exact ⟨rfl, hbw⟩
end Go.Proofs.Ytmlgolnfegaihaa
