/- The law ChainTells returns true. -/
import Derived.Test.YthkhafgcpmoalaaChainAny
import Derived.Test.YthkhafgcpmoalaaRefChain
import Derived.Test.YthkhafgcpmoalaaRefHeadOf
import Derived.Test.YthkhafgcpmoalaaHeadEq
import Derived.Test.YthkhafgcpmoalaaDropHeads
import Derived.Test.YthkhafgcpmoalaaHeadsArg
import Derived.Test.YthkhafgcpmoalaaLaw
import Derived.Deep.DeepCutAuto
import Derived.Deep.RegionHeld3
namespace Go.Proofs.Ythkhafgcpmoalaa
set_option maxRecDepth 100000
open Go.RowKit Go.ChangeShapes Go.WideShapes Go.ChangeAt

/-- append onto a row of the call's own, as one step of a region that draws, behind a guard that holds. -/
theorem step_app_headsG {ops : Array Oper} {o : Oper} {a : Act} {w : World} {K : Act → World → Prop} {Q : Exit → Act → World → Prop} {E : Prop} (hw : Region.wanted o (yielded ops a.tmps) = true) (s x : Operand)
    (ho : o.op = .call { callee := .builtin .append, args := #[s, x], argTypes := #[22, 22] })
    (base : Nat) (v : Value) (l : List Hd) (hs : a.eval s = v) (hown : w.ownsRow base 25 4 v l.length (hcells l))
    (B : Option Addr) (c : Nat) (r : List Hd) (hx : a.eval x = .slice B r.length c) (hB : Row w B (hcells r)) (hr : 0 < r.length) (hsmall : (l.length + r.length) * 32 ≤ 140737488355328) (hbase : base ≤ w.heap.size)
    (h : ∀ v' w', w'.ownsRow base 25 4 v' (l ++ r).length (hcells (l ++ r)) → w.grownBy w' v.ownBlock → K (a.put o.dst v') w') :
    if Region.wanted o (yielded ops a.tmps) = true then Oper.wp Try.prog o a w K Q else E := by
  rw [if_pos hw]
  obtain ⟨v', w', hrun, h1, h2⟩ := run_appH w o.type base v l hown B c r hB hr hsmall hbase
  unfold Oper.wp
  simp [execOp, ho, resolve, invoke, builtin, hs, hx, hrun, Result.andThen]
  exact h v' w' h1 h2

set_option maxHeartbeats 2000000 in
theorem chainTells_bad (A : Option Addr) (c : Nat) (l : List Hd) (nr : Nat) (na fr tq ep : Int) (rt pv : Nat) (tm : Int) (w : World) (hm : l.length ≤ maxLen) (hA : Row w A (hcells l)) (r : Int) (p : Nat) (hr : cfault l = (r, p)) (h0 : r ≠ 0) :
    Calls Try.prog 3 #[.slice A l.length c, .int .u64 (nr : Int), .int .i64 na, .int .i64 fr, .int .i64 tq, .agg #[.int .i64 ep, .int .u64 (rt : Int), .int .u64 (pv : Int), .int .i64 tm]] w fun e w' => e = .returned (.bool true) ∧ Below w.heap.size w w' := by
  have hC := fun (w : World) hA => Lib.hid (chainCheck A c l w hm hA r p hr)
  have hR := fun (w : World) hA => Lib.hid (refCFault A c l w hm hA r p hr)
  have hg1 : growErr l nr na = r := by rw [growErr, hr, if_neg h0]
  have hg2 : partErr l fr tq = r := by rw [partErr, hr, if_neg h0]
  have hg3 : followAns (ep, rt, pv, tm) l = (false, r) := by rw [followAns, hr, if_neg h0]
  have hG := fun (w : World) hA => Lib.hid (chainGrow_no A c l nr na w hm hA r hg1 h0)
  have hP := fun (w : World) hA => Lib.hid (chainPart_no A c l fr tq w hm hA r hg2 h0)
  have hF := fun (w : World) hA => Lib.hid (chainFollows A c l ep rt pv tm w hm hA false r hg3)
  have c1 : (r == 0) = false := beq_eq_false_iff_ne.2 h0
  have hv0 := TB.new w fr tq ep rt pv tm
  have hb0 := below_new3 w (.cells #[.int .i64 fr] 2) (.cells #[.int .i64 tq] 2) (.cells #[.int .i64 ep, .int .u64 (rt : Int), .int .u64 (pv : Int), .int .i64 tm] 25)
  have hA0 := hA.below hb0
  clear hr h0 hg1 hg2 hg3 hA
  go_enter Try.func3, Try.ntmps3
  go_wp2_with fail
  generalize ((w.alloc (.cells #[.int .i64 fr] 2)).alloc (.cells #[.int .i64 tq] 2)).alloc (.cells #[.int .i64 ep, .int .u64 (rt : Int), .int .u64 (pv : Int), .int .i64 tm] 25) = v0 at *
  refine (hC _ hA0).out.mono ?_
  rintro e w1 ⟨rfl, hb1⟩
  have hA1 := hA0.below hb1
  have hv1 := hv0.below hb1
  have hb01 := below_chain hb0 hb1
  clear hC hA0 hv0 hb0 hb1
  go_wp2_with fail
  refine (hG _ hA1).out.mono ?_
  rintro e w2 ⟨rfl, hb2⟩
  have hA2 := hA1.below hb2
  have hv2 := hv1.below hb2
  have hb02 := below_chain hb01 hb2
  clear hG hA1 hv1 hb01 hb2
  obtain ⟨y0, y1, y2, y3, y4, y5⟩ := hv2.cells
  go_wp2_with fail
  clear y0 y1 y2 y3 y4 y5
  refine (hP _ hA2).out.mono ?_
  rintro e w3 ⟨rfl, hb3⟩
  have hA3 := hA2.below hb3
  have hv3 := hv2.below hb3
  have hb03 := below_chain hb02 hb3
  clear hP hA2 hv2 hb02 hb3
  obtain ⟨y0, y1, y2, y3, y4, y5⟩ := hv3.cells
  go_wp2_with fail
  clear y0 y1 y2 y3 y4 y5
  refine (hF _ hA3).out.mono ?_
  rintro e w4 ⟨rfl, hb4⟩
  have hA4 := hA3.below hb4
  have hb04 := below_chain hb03 hb4
  clear hF hA3 hv3 hb03 hb4
  go_wp2_with fail
  refine (hR _ hA4).out.mono ?_
  rintro e w5 ⟨rfl, hb5⟩
  have hb05 := below_chain hb04 hb5
  clear hR hA4 hb04 hb5
  go_wp2
  go_ret
  exact ⟨rfl, hb05⟩

set_option maxHeartbeats 20000000 in
theorem chainTells_good (A : Option Addr) (c : Nat) (l : List Hd) (nr : Nat) (na fr tq ep : Int) (rt pv : Nat) (tm : Int) (w : World) (hc : l.length ≤ c) (hcm : c ≤ maxLen) (hA : Row w A (hcells l)) (hg : CGood l) :
    Calls Try.prog 3 #[.slice A l.length c, .int .u64 (nr : Int), .int .i64 na, .int .i64 fr, .int .i64 tq, .agg #[.int .i64 ep, .int .u64 (rt : Int), .int .u64 (pv : Int), .int .i64 tm]] w fun e w' => e = .returned (.bool true) ∧ Below w.heap.size w w' := by
  have hlen := hg.len
  have hpos := hg.pos
  have hm : l.length ≤ maxLen := by unfold maxLen; omega
  have hC := fun (w : World) hA => Lib.hid (chainCheck A c l w hm hA 0 0 (cfault_zero l hg))
  have hR := fun (w : World) hA => Lib.hid (refCFault A c l w hm hA 0 0 (cfault_zero l hg))
  have hG := fun (w : World) hA => Lib.hid (chainGrow_any A c l nr na w hm hA)
  have hP := fun (w : World) hA => Lib.hid (chainPart_any A c l fr tq w hc hcm hA)
  obtain ⟨want, hwant⟩ : ∃ r, hfault (ep, rt, pv, tm) = r := ⟨_, rfl⟩
  obtain ⟨⟨f0, f1, f2, f3⟩, hfi⟩ : ∃ x, firstH l = x := ⟨_, rfl⟩
  obtain ⟨lk, hlk⟩ : ∃ b, links (ep, rt, pv, tm) (f0, f1, f2, f3) = b := ⟨_, rfl⟩
  have hfol : followAns (ep, rt, pv, tm) l = if want = 0 then (lk, 0) else (false, want) := by rw [followAns, if_pos ((cfault_ok l).2 hg), hwant, hfi, hlk]
  obtain ⟨⟨is, ie⟩, hie⟩ : ∃ x, followAns (ep, rt, pv, tm) l = x := ⟨_, rfl⟩
  have hF := fun (w : World) hA => Lib.hid (chainFollows A c l ep rt pv tm w hm hA is ie hie)
  have hW := fun w => Lib.hid (refHFault ep rt pv tm w want hwant)
  have hK := fun w => Lib.hid (refLinks ep rt pv tm f0 f1 f2 f3 w lk hlk)
  rw [hie] at hfol
  have HFol := Lib.hid hfol
  obtain ⟨bi, i0, i1, i2, i3, hi1, hi2⟩ := hof_any l fr
  obtain ⟨bo, o0, o1, o2, o3, ho1, ho2⟩ := hof_any l tq
  have hOi := fun (w : World) hA => Lib.hid (refHeadOf A c l fr w hm hA i0 i1 i2 i3 bi hi1 hi2)
  have hOo := fun (w : World) hA => Lib.hid (refHeadOf A c l tq w hm hA o0 o1 o2 o3 bo ho1 ho2)
  have HIn := Lib.hid (hof_in hg fr bi _ hi1)
  have HOut := Lib.hid (hof_in hg tq bo _ ho1)
  rw [firstH_at hpos] at hfi
  have HG := Lib.hid hg
  have hv0 := TB.new w fr tq ep rt pv tm
  have hb0 := below_new3 w (.cells #[.int .i64 fr] 2) (.cells #[.int .i64 tq] 2) (.cells #[.int .i64 ep, .int .u64 (rt : Int), .int .u64 (pv : Int), .int .i64 tm] 25)
  have hA0 := hA.below hb0
  clear hwant hlk hfol hie hi1 hi2 ho1 ho2 hA hc hcm hm hlen
  go_enter Try.func3, Try.ntmps3
  go_wp2_with fail
  generalize ((w.alloc (.cells #[.int .i64 fr] 2)).alloc (.cells #[.int .i64 tq] 2)).alloc (.cells #[.int .i64 ep, .int .u64 (rt : Int), .int .u64 (pv : Int), .int .i64 tm] 25) = v0 at *
  refine (hC _ hA0).out.mono ?_
  rintro e w1 ⟨rfl, hb1⟩
  have hA1 := hA0.below hb1
  have hv1 := hv0.below hb1
  have hb01 := below_chain hb0 hb1
  clear hC hA0 hv0 hb0 hb1
  go_wp2_with fail
  refine (hG _ hA1).out.mono ?_
  rintro e w2 ⟨D, nD, d, f, rfl, hgr, hb2⟩
  have hA2 := hA1.below hb2
  have hv2 := hv1.below hb2
  have hb02 := below_chain hb01 hb2
  have HGr := Lib.hid (fun (W : World) (hW : Below w2.heap.size w2 W) => hgr.below hW)
  clear hG hA1 hv1 hb01 hb2 hgr
  obtain ⟨y0, y1, y2, y3, y4, y5⟩ := hv2.cells
  go_wp2_with fail
  clear y0 y1 y2 y3 y4 y5
  refine (hP _ hA2).out.mono ?_
  rintro e w3 ⟨E, nE, d', g, rfl, hpa, hb3⟩
  have hA3 := hA2.below hb3
  have hv3 := hv2.below hb3
  have hb03 := below_chain hb02 hb3
  have hw23 := hb3
  have HPa := Lib.hid (fun (W : World) (hW : Below w3.heap.size w3 W) => hpa.below hW)
  clear hP hA2 hv2 hb02 hb3 hpa
  obtain ⟨y0, y1, y2, y3, y4, y5⟩ := hv3.cells
  go_wp2_with fail
  clear y0 y1 y2 y3 y4 y5
  refine (hF _ hA3).out.mono ?_
  rintro e w4 ⟨rfl, hb4⟩
  have hA4 := hA3.below hb4
  have hv4 := hv3.below hb4
  have hb04 := below_chain hb03 hb4
  have hw24 := below_chain hw23 hb4
  have hw34 := hb4
  clear hF hA3 hv3 hb03 hb4 hw23
  go_wp2_with fail
  refine (hR _ hA4).out.mono ?_
  rintro e w5 ⟨rfl, hb5⟩
  have hA5 := hA4.below hb5
  have hv5 := hv4.below hb5
  have hb05 := below_chain hb04 hb5
  have hw25 := below_chain hw24 hb5
  have hw35 := below_chain hw34 hb5
  clear hR hA4 hv4 hb04 hb5 hw24 hw34
  obtain ⟨y0, y1, y2, y3, y4, y5⟩ := hv5.cells
  go_wp2_with fail
  clear y0 y1 y2 y3 y4 y5
  refine (hW _).out.mono ?_
  rintro e w6 ⟨rfl, hb6⟩
  have hA6 := hA5.below hb6
  have hv6 := hv5.below hb6
  have hb06 := below_chain hb05 hb6
  have hw26 := below_chain hw25 hb6
  have hw36 := below_chain hw35 hb6
  clear hW hA5 hv5 hb05 hb6 hw25 hw35
  go_upto_region 11 with fail
  go_cut [123] (fun q wx => q = .bool false ∧ Below w6.heap.size w6 wx)
  case first =>
    as_aux_lemma =>
    by_cases k0 : want = 0
    · have e1 := HFol.out
      rw [if_pos k0] at e1
      injection e1 with e1 e2
      subst k0; subst e1; subst e2
      have c9 : (is == is) = true := beq_self_eq_true is
      obtain ⟨gl, off, rfl, j0, j1, j2, j3⟩ := hA6.head 0 hpos
      rw [hfi, Nat.zero_mul, Nat.add_zero] at j0 j1 j2 j3
      dsimp only at j0 j1 j2 j3
      have i1 : (0 : Int) < (l.length : Int) := by omega
      obtain ⟨y0, y1, y2, y3, y4, y5⟩ := hv6.cells
      have hb9 : Below w6.heap.size w6 w6.drew := bdrew (Below.refl _ _)
      have hK' : ∀ W : World, (W.cell? ⟨w.heap.size + 1 + 1, 0, none⟩ = some (.int .i64 ep) ∧ W.cell? ⟨w.heap.size + 1 + 1, 1, none⟩ = some (.int .u64 (rt : Int)) ∧ W.cell? ⟨w.heap.size + 1 + 1, 2, none⟩ = some (.int .u64 (pv : Int)) ∧ W.cell? ⟨w.heap.size + 1 + 1, 3, none⟩ = some (.int .i64 tm) ∧ W.cell? ⟨gl, off, none⟩ = some (.int .i64 f0) ∧ W.cell? ⟨gl, off + 1, none⟩ = some (.int .u64 (f1 : Int)) ∧ W.cell? ⟨gl, off + 2, none⟩ = some (.int .u64 (f2 : Int)) ∧ W.cell? ⟨gl, off + 3, none⟩ = some (.int .i64 f3) ∧ Below w6.heap.size w6 W) → Hid (Calls Try.prog 14 #[.agg #[.int .i64 ep, .int .u64 (rt : Int), .int .u64 (pv : Int), .int .i64 tm], .agg #[.int .i64 f0, .int .u64 (f1 : Int), .int .u64 (f2 : Int), .int .i64 f3]] W fun e w' => e = .returned (.bool is) ∧ w'.cell? ⟨w.heap.size + 1 + 1, 0, none⟩ = some (.int .i64 ep) ∧ w'.cell? ⟨w.heap.size + 1 + 1, 1, none⟩ = some (.int .u64 (rt : Int)) ∧ w'.cell? ⟨w.heap.size + 1 + 1, 2, none⟩ = some (.int .u64 (pv : Int)) ∧ w'.cell? ⟨w.heap.size + 1 + 1, 3, none⟩ = some (.int .i64 tm) ∧ w'.cell? ⟨gl, off, none⟩ = some (.int .i64 f0) ∧ w'.cell? ⟨gl, off + 1, none⟩ = some (.int .u64 (f1 : Int)) ∧ w'.cell? ⟨gl, off + 2, none⟩ = some (.int .u64 (f2 : Int)) ∧ w'.cell? ⟨gl, off + 3, none⟩ = some (.int .i64 f3) ∧ Below w6.heap.size w6 w') := fun W ⟨q1, q2, q3, q4, q5, q6, q7, q8, q9⟩ => by
        show Calls _ _ _ _ _
        refine (hK W).out.mono ?_
        rintro e w' ⟨rfl, hb⟩
        exact ⟨rfl, kept q1 hb, kept q2 hb, kept q3 hb, kept q4 hb, kept q5 hb, kept q6 hb, kept q7 hb, kept q8 hb, below_chain q9 hb⟩
      clear HFol HGr HPa HIn HOut hOi hOo hK hA6 hv6 hw26 hw36 hb06
      refine wp_region_held_drew (S := fun W => W.cell? ⟨w.heap.size + 1 + 1, 0, none⟩ = some (.int .i64 ep) ∧ W.cell? ⟨w.heap.size + 1 + 1, 1, none⟩ = some (.int .u64 (rt : Int)) ∧ W.cell? ⟨w.heap.size + 1 + 1, 2, none⟩ = some (.int .u64 (pv : Int)) ∧ W.cell? ⟨w.heap.size + 1 + 1, 3, none⟩ = some (.int .i64 tm) ∧ W.cell? ⟨gl, off, none⟩ = some (.int .i64 f0) ∧ W.cell? ⟨gl, off + 1, none⟩ = some (.int .u64 (f1 : Int)) ∧ W.cell? ⟨gl, off + 2, none⟩ = some (.int .u64 (f2 : Int)) ∧ W.cell? ⟨gl, off + 3, none⟩ = some (.int .i64 f3) ∧ Below w6.heap.size w6 W) (by kernel_rfl) ⟨y2, y3, y4, y5, j0, j1, j2, j3, hb9⟩ (fun hHeld => ?_)
      refine wpAnyH_take (i := 0) (v := ?_) rfl (by kernel_rfl) (by kernel_rfl) (by kernel_rfl) (fun _ _ _ h => h) (Or.inl ⟨by rfl, ?_⟩) (by assumption) ?_
      rotate_left
      · intro wt hSt
        try dsimp only at hSt
        first | (go_simp; done) | (go_simp; with_reducible rfl)
      simp only [Act.put, List.setIfInBounds_toArray, List.set_cons_zero, List.set_cons_succ, List.getElem_toArray, List.getElem_cons_zero]
      refine wpAnyH_take (i := 1) (v := ?_) rfl (by kernel_rfl) (by kernel_rfl) (by kernel_rfl) (fun _ _ _ h => h) (Or.inl ⟨by rfl, ?_⟩) (by assumption) ?_
      rotate_left
      · intro wt hSt
        try dsimp only at hSt
        first | (go_simp; done) | (go_simp; with_reducible rfl)
      simp only [Act.put, List.setIfInBounds_toArray, List.set_cons_zero, List.set_cons_succ, List.getElem_toArray, List.getElem_cons_zero, List.getElem_cons_succ]
      refine wpAnyH_take (i := 2) (v := ?_) rfl (by kernel_rfl) (by kernel_rfl) (by kernel_rfl) (fun _ _ _ h => h) (Or.inl ⟨by rfl, ?_⟩) (by assumption) ?_
      rotate_left
      · intro wt hSt
        try dsimp only at hSt
        first | (go_simp; done) | (go_simp; with_reducible rfl)
      simp only [Act.put, List.setIfInBounds_toArray, List.set_cons_zero, List.set_cons_succ, List.getElem_toArray, List.getElem_cons_zero, List.getElem_cons_succ]
      refine wpAnyH_take (i := 3) (v := undef) rfl (by kernel_rfl) (by kernel_rfl) (by kernel_rfl) (fun _ _ _ h => h) (Or.inr ⟨by rfl, rfl⟩) (by assumption) ?_
      simp only [Act.put, List.setIfInBounds_toArray, List.set_cons_zero, List.set_cons_succ, List.getElem_toArray, List.getElem_cons_zero, List.getElem_cons_succ]
      refine wpAnyH_take (i := 4) (v := undef) rfl (by kernel_rfl) (by kernel_rfl) (by kernel_rfl) (fun _ _ _ h => h) (Or.inr ⟨by rfl, rfl⟩) (by assumption) ?_
      simp only [Act.put, List.setIfInBounds_toArray, List.set_cons_zero, List.set_cons_succ, List.getElem_toArray, List.getElem_cons_zero, List.getElem_cons_succ]
      refine wpAnyH_take (i := 5) (v := undef) rfl (by kernel_rfl) (by kernel_rfl) (by kernel_rfl) (fun _ _ _ h => h) (Or.inr ⟨by rfl, rfl⟩) (by assumption) ?_
      simp only [Act.put, List.setIfInBounds_toArray, List.set_cons_zero, List.set_cons_succ, List.getElem_toArray, List.getElem_cons_zero, List.getElem_cons_succ]
      refine wpAnyH_take (i := 6) (v := undef) rfl (by kernel_rfl) (by kernel_rfl) (by kernel_rfl) (fun _ _ _ h => h) (Or.inr ⟨by rfl, rfl⟩) (by assumption) ?_
      simp only [Act.put, List.setIfInBounds_toArray, List.set_cons_zero, List.set_cons_succ, List.getElem_toArray, List.getElem_cons_zero, List.getElem_cons_succ]
      refine wpAnyH_take (i := 7) (v := undef) rfl (by kernel_rfl) (by kernel_rfl) (by kernel_rfl) (fun _ _ _ h => h) (Or.inr ⟨by rfl, rfl⟩) (by assumption) ?_
      simp only [Act.put, List.setIfInBounds_toArray, List.set_cons_zero, List.set_cons_succ, List.getElem_toArray, List.getElem_cons_zero, List.getElem_cons_succ]
      refine wpAnyH_take (i := 8) (v := undef) rfl (by kernel_rfl) (by kernel_rfl) (by kernel_rfl) (fun _ _ _ h => h) (Or.inr ⟨by rfl, rfl⟩) (by assumption) ?_
      simp only [Act.put, List.setIfInBounds_toArray, List.set_cons_zero, List.set_cons_succ, List.getElem_toArray, List.getElem_cons_zero, List.getElem_cons_succ]
      refine wpAnyH_take (i := 9) (v := ?_) rfl (by kernel_rfl) (by kernel_rfl) (by kernel_rfl) (fun _ _ _ h => h) (Or.inl ⟨by rfl, ?_⟩) (by assumption) ?_
      rotate_left
      · intro wt hSt
        try dsimp only at hSt
        first | (go_simp; done) | (go_simp; with_reducible rfl)
      simp only [Act.put, List.setIfInBounds_toArray, List.set_cons_zero, List.set_cons_succ, List.getElem_toArray, List.getElem_cons_zero, List.getElem_cons_succ]
      refine wpAnyH_take (i := 10) (v := ?_) rfl (by kernel_rfl) (by kernel_rfl) (by kernel_rfl) (fun _ _ _ h => h) (Or.inl ⟨by rfl, ?_⟩) (by assumption) ?_
      rotate_left
      · intro wt hSt
        try dsimp only at hSt
        first | (go_simp; done) | (go_simp; with_reducible rfl)
      simp only [Act.put, List.setIfInBounds_toArray, List.set_cons_zero, List.set_cons_succ, List.getElem_toArray, List.getElem_cons_zero, List.getElem_cons_succ]
      refine wpAnyH_take (i := 11) (v := ?_) rfl (by kernel_rfl) (by kernel_rfl) (by kernel_rfl) (fun _ _ _ h => h) (Or.inl ⟨by rfl, ?_⟩) (by assumption) ?_
      rotate_left
      · intro wt hSt
        try dsimp only at hSt
        first | (go_simp; done) | (go_simp; with_reducible rfl)
      simp only [Act.put, List.setIfInBounds_toArray, List.set_cons_zero, List.set_cons_succ, List.getElem_toArray, List.getElem_cons_zero, List.getElem_cons_succ]
      refine wpAnyH_take (i := 12) (v := ?_) rfl (by kernel_rfl) (by kernel_rfl) (by kernel_rfl) (fun _ _ _ h => h) (Or.inl ⟨by rfl, ?_⟩) (by assumption) ?_
      rotate_left
      · intro wt hSt
        try dsimp only at hSt
        first | (go_simp; done) | (go_simp; with_reducible rfl)
      simp only [Act.put, List.setIfInBounds_toArray, List.set_cons_zero, List.set_cons_succ, List.getElem_toArray, List.getElem_cons_zero, List.getElem_cons_succ]
      refine wpAnyH_take (i := 13) (v := ?_) rfl (by kernel_rfl) (by kernel_rfl) (by kernel_rfl) (fun _ _ _ h => h) (Or.inl ⟨by rfl, ?_⟩) (by assumption) ?_
      rotate_left
      · intro wt hSt
        try dsimp only at hSt
        first | (go_simp; done) | (go_simp; with_reducible rfl)
      simp only [Act.put, List.setIfInBounds_toArray, List.set_cons_zero, List.set_cons_succ, List.getElem_toArray, List.getElem_cons_zero, List.getElem_cons_succ]
      refine wpAnyH_take (i := 14) (v := ?_) rfl (by kernel_rfl) (by kernel_rfl) (by kernel_rfl) (fun _ _ _ h => h) (Or.inl ⟨by rfl, ?_⟩) (by assumption) ?_
      rotate_left
      · intro wt hSt
        try dsimp only at hSt
        first | (go_simp; done) | (go_simp; with_reducible rfl)
      simp only [Act.put, List.setIfInBounds_toArray, List.set_cons_zero, List.set_cons_succ, List.getElem_toArray, List.getElem_cons_zero, List.getElem_cons_succ]
      refine wpAnyH_take (i := 15) (v := ?_) rfl (by kernel_rfl) (by kernel_rfl) (by kernel_rfl) (fun _ _ _ h => h) (Or.inl ⟨by rfl, ?_⟩) (by assumption) ?_
      rotate_left
      · intro wt hSt
        try dsimp only at hSt
        first | (go_simp; done) | (go_simp; with_reducible rfl)
      simp only [Act.put, List.setIfInBounds_toArray, List.set_cons_zero, List.set_cons_succ, List.getElem_toArray, List.getElem_cons_zero, List.getElem_cons_succ]
      refine wpAnyH_take (i := 16) (v := ?_) rfl (by kernel_rfl) (by kernel_rfl) (by kernel_rfl) (fun _ _ _ h => h) (Or.inl ⟨by rfl, ?_⟩) (by assumption) ?_
      rotate_left
      · intro wt hSt
        try dsimp only at hSt
        first | (go_simp; done) | (go_simp; with_reducible rfl)
      simp only [Act.put, List.setIfInBounds_toArray, List.set_cons_zero, List.set_cons_succ, List.getElem_toArray, List.getElem_cons_zero, List.getElem_cons_succ]
      refine wpAnyH_take (i := 17) (v := ?_) rfl (by kernel_rfl) (by kernel_rfl) (by kernel_rfl) (fun _ _ _ h => h) (Or.inl ⟨by rfl, ?_⟩) (by assumption) ?_
      rotate_left
      · intro wt hSt
        try dsimp only at hSt
        first | (go_simp; done) | (go_simp; with_reducible rfl)
      simp only [Act.put, List.setIfInBounds_toArray, List.set_cons_zero, List.set_cons_succ, List.getElem_toArray, List.getElem_cons_zero, List.getElem_cons_succ]
      refine wpAnyH_take (i := 18) (v := ?_) rfl (by kernel_rfl) (by kernel_rfl) (by kernel_rfl) (fun _ _ _ h => h) (Or.inl ⟨by rfl, ?_⟩) (by assumption) ?_
      rotate_left
      · intro wt hSt
        try dsimp only at hSt
        first | (go_simp; done) | (go_simp; with_reducible rfl)
      simp only [Act.put, List.setIfInBounds_toArray, List.set_cons_zero, List.set_cons_succ, List.getElem_toArray, List.getElem_cons_zero, List.getElem_cons_succ]
      refine wpAnyH_ready (rs := [19]) (by kernel_rfl) (by simp) ?_
      refine AllReadyH.cons rfl (fun K hK => ?_) AllReadyH.nil
      go_simp
      go_at_call 14
      refine (hK' _ hHeld).out.mono ?_
      rintro e w' ⟨rfl, k1, k2, k3, k4, k5, k6, k7, k8, k9⟩
      go_wp2_with fail
      refine hK.out _ _ ⟨k1, k2, k3, k4, k5, k6, k7, k8, k9⟩ (fun hHeld => ?_)
      clear hK K
      refine wpAnyH_take (i := 20) (v := ?_) rfl (by kernel_rfl) (by kernel_rfl) (by kernel_rfl) (fun _ _ _ h => h) (Or.inl ⟨by rfl, ?_⟩) (by assumption) ?_
      rotate_left
      · intro wt hSt
        try dsimp only at hSt
        first | (go_simp; done) | (go_simp; with_reducible rfl)
      simp only [Act.put, List.setIfInBounds_toArray, List.set_cons_zero, List.set_cons_succ, List.getElem_toArray, List.getElem_cons_zero, List.getElem_cons_succ]
      refine wpAnyH_take (i := 21) (v := ?_) rfl (by kernel_rfl) (by kernel_rfl) (by kernel_rfl) (fun _ _ _ h => h) (Or.inl ⟨by rfl, ?_⟩) (by assumption) ?_
      rotate_left
      · intro wt hSt
        try dsimp only at hSt
        first | (go_simp; done) | (go_simp; with_reducible rfl)
      simp only [Act.put, List.setIfInBounds_toArray, List.set_cons_zero, List.set_cons_succ, List.getElem_toArray, List.getElem_cons_zero, List.getElem_cons_succ]
      refine wpAnyH_take (i := 22) (v := ?_) rfl (by kernel_rfl) (by kernel_rfl) (by kernel_rfl) (fun _ _ _ h => h) (Or.inl ⟨by rfl, ?_⟩) (by assumption) ?_
      rotate_left
      · intro wt hSt
        try dsimp only at hSt
        first | (go_simp; done) | (go_simp; with_reducible rfl)
      simp only [Act.put, List.setIfInBounds_toArray, List.set_cons_zero, List.set_cons_succ, List.getElem_toArray, List.getElem_cons_zero, List.getElem_cons_succ]
      refine wpAnyH_take (i := 23) (v := ?_) rfl (by kernel_rfl) (by kernel_rfl) (by kernel_rfl) (fun _ _ _ h => h) (Or.inl ⟨by rfl, ?_⟩) (by assumption) ?_
      rotate_left
      · intro wt hSt
        try dsimp only at hSt
        first | (go_simp; done) | (go_simp; with_reducible rfl)
      simp only [Act.put, List.setIfInBounds_toArray, List.set_cons_zero, List.set_cons_succ, List.getElem_toArray, List.getElem_cons_zero, List.getElem_cons_succ]
      refine wpAnyH_take (i := 24) (v := ?_) rfl (by kernel_rfl) (by kernel_rfl) (by kernel_rfl) (fun _ _ _ h => h) (Or.inl ⟨by rfl, ?_⟩) (by assumption) ?_
      rotate_left
      · intro wt hSt
        try dsimp only at hSt
        first | (go_simp; done) | (go_simp; with_reducible rfl)
      simp only [Act.put, List.setIfInBounds_toArray, List.set_cons_zero, List.set_cons_succ, List.getElem_toArray, List.getElem_cons_zero, List.getElem_cons_succ]
      refine wpAnyH_take (i := 25) (v := ?_) rfl (by kernel_rfl) (by kernel_rfl) (by kernel_rfl) (fun _ _ _ h => h) (Or.inl ⟨by rfl, ?_⟩) (by assumption) ?_
      rotate_left
      · intro wt hSt
        try dsimp only at hSt
        first | (go_simp; done) | (go_simp; with_reducible rfl)
      simp only [Act.put, List.setIfInBounds_toArray, List.set_cons_zero, List.set_cons_succ, List.getElem_toArray, List.getElem_cons_zero, List.getElem_cons_succ]
      refine wpAnyH_take (i := 26) (v := ?_) rfl (by kernel_rfl) (by kernel_rfl) (by kernel_rfl) (fun _ _ _ h => h) (Or.inl ⟨by rfl, ?_⟩) (by assumption) ?_
      rotate_left
      · intro wt hSt
        try dsimp only at hSt
        first | (go_simp; done) | (go_simp; with_reducible rfl)
      simp only [Act.put, List.setIfInBounds_toArray, List.set_cons_zero, List.set_cons_succ, List.getElem_toArray, List.getElem_cons_zero, List.getElem_cons_succ]
      refine wpAnyH_done (by kernel_rfl) ?_ _
      go_wp2_with fail
      go_meet
      case rel => exact ⟨rfl, k9⟩
    · have e1 := HFol.out
      rw [if_neg k0] at e1
      injection e1 with e1 e2
      have c9 : (want == 0) = false := beq_eq_false_iff_ne.2 k0
      have c10 : (want != 0) = true := bne_iff_ne.2 k0
      subst e1; subst e2
      clear HFol HGr HPa HIn HOut hOi hOo hK hA6 hv6 hw26 hw36 hb06 k0
      refine wp_region_held_drew (S := fun W => Below w6.heap.size w6 W) (by kernel_rfl) (bdrew (Below.refl _ _)) (fun hHeld => ?_)
      refine wpAnyH_take (i := 0) (v := ?_) rfl (by kernel_rfl) (by kernel_rfl) (by kernel_rfl) (fun _ _ _ h => h) (Or.inl ⟨by rfl, ?_⟩) (by assumption) ?_
      rotate_left
      · intro wt hSt
        try dsimp only at hSt
        first | (go_simp; done) | (go_simp; with_reducible rfl)
      simp only [Act.put, List.setIfInBounds_toArray, List.set_cons_zero, List.set_cons_succ, List.getElem_toArray, List.getElem_cons_zero]
      refine wpAnyH_take (i := 1) (v := ?_) rfl (by kernel_rfl) (by kernel_rfl) (by kernel_rfl) (fun _ _ _ h => h) (Or.inl ⟨by rfl, ?_⟩) (by assumption) ?_
      rotate_left
      · intro wt hSt
        try dsimp only at hSt
        first | (go_simp; done) | (go_simp; with_reducible rfl)
      simp only [Act.put, List.setIfInBounds_toArray, List.set_cons_zero, List.set_cons_succ, List.getElem_toArray, List.getElem_cons_zero, List.getElem_cons_succ]
      refine wpAnyH_take (i := 2) (v := ?_) rfl (by kernel_rfl) (by kernel_rfl) (by kernel_rfl) (fun _ _ _ h => h) (Or.inl ⟨by rfl, ?_⟩) (by assumption) ?_
      rotate_left
      · intro wt hSt
        try dsimp only at hSt
        first | (go_simp; done) | (go_simp; with_reducible rfl)
      simp only [Act.put, List.setIfInBounds_toArray, List.set_cons_zero, List.set_cons_succ, List.getElem_toArray, List.getElem_cons_zero, List.getElem_cons_succ]
      refine wpAnyH_take (i := 3) (v := ?_) rfl (by kernel_rfl) (by kernel_rfl) (by kernel_rfl) (fun _ _ _ h => h) (Or.inl ⟨by rfl, ?_⟩) (by assumption) ?_
      rotate_left
      · intro wt hSt
        try dsimp only at hSt
        first | (go_simp; done) | (go_simp; with_reducible rfl)
      simp only [Act.put, List.setIfInBounds_toArray, List.set_cons_zero, List.set_cons_succ, List.getElem_toArray, List.getElem_cons_zero, List.getElem_cons_succ]
      refine wpAnyH_take (i := 4) (v := ?_) rfl (by kernel_rfl) (by kernel_rfl) (by kernel_rfl) (fun _ _ _ h => h) (Or.inl ⟨by rfl, ?_⟩) (by assumption) ?_
      rotate_left
      · intro wt hSt
        try dsimp only at hSt
        first | (go_simp; done) | (go_simp; with_reducible rfl)
      simp only [Act.put, List.setIfInBounds_toArray, List.set_cons_zero, List.set_cons_succ, List.getElem_toArray, List.getElem_cons_zero, List.getElem_cons_succ]
      refine wpAnyH_take (i := 5) (v := ?_) rfl (by kernel_rfl) (by kernel_rfl) (by kernel_rfl) (fun _ _ _ h => h) (Or.inl ⟨by rfl, ?_⟩) (by assumption) ?_
      rotate_left
      · intro wt hSt
        try dsimp only at hSt
        first | (go_simp; done) | (go_simp; with_reducible rfl)
      simp only [Act.put, List.setIfInBounds_toArray, List.set_cons_zero, List.set_cons_succ, List.getElem_toArray, List.getElem_cons_zero, List.getElem_cons_succ]
      refine wpAnyH_take (i := 6) (v := ?_) rfl (by kernel_rfl) (by kernel_rfl) (by kernel_rfl) (fun _ _ _ h => h) (Or.inl ⟨by rfl, ?_⟩) (by assumption) ?_
      rotate_left
      · intro wt hSt
        try dsimp only at hSt
        first | (go_simp; done) | (go_simp; with_reducible rfl)
      simp only [Act.put, List.setIfInBounds_toArray, List.set_cons_zero, List.set_cons_succ, List.getElem_toArray, List.getElem_cons_zero, List.getElem_cons_succ]
      refine wpAnyH_take (i := 7) (v := ?_) rfl (by kernel_rfl) (by kernel_rfl) (by kernel_rfl) (fun _ _ _ h => h) (Or.inl ⟨by rfl, ?_⟩) (by assumption) ?_
      rotate_left
      · intro wt hSt
        try dsimp only at hSt
        first | (go_simp; done) | (go_simp; with_reducible rfl)
      simp only [Act.put, List.setIfInBounds_toArray, List.set_cons_zero, List.set_cons_succ, List.getElem_toArray, List.getElem_cons_zero, List.getElem_cons_succ]
      refine wpAnyH_take (i := 8) (v := ?_) rfl (by kernel_rfl) (by kernel_rfl) (by kernel_rfl) (fun _ _ _ h => h) (Or.inl ⟨by rfl, ?_⟩) (by assumption) ?_
      rotate_left
      · intro wt hSt
        try dsimp only at hSt
        first | (go_simp; done) | (go_simp; with_reducible rfl)
      simp only [Act.put, List.setIfInBounds_toArray, List.set_cons_zero, List.set_cons_succ, List.getElem_toArray, List.getElem_cons_zero, List.getElem_cons_succ]
      refine wpAnyH_take (i := 9) (v := ?_) rfl (by kernel_rfl) (by kernel_rfl) (by kernel_rfl) (fun _ _ _ h => h) (Or.inl ⟨by rfl, ?_⟩) (by assumption) ?_
      rotate_left
      · intro wt hSt
        try dsimp only at hSt
        first | (go_simp; done) | (go_simp; with_reducible rfl)
      simp only [Act.put, List.setIfInBounds_toArray, List.set_cons_zero, List.set_cons_succ, List.getElem_toArray, List.getElem_cons_zero, List.getElem_cons_succ]
      refine wpAnyH_take (i := 10) (v := ?_) rfl (by kernel_rfl) (by kernel_rfl) (by kernel_rfl) (fun _ _ _ h => h) (Or.inl ⟨by rfl, ?_⟩) (by assumption) ?_
      rotate_left
      · intro wt hSt
        try dsimp only at hSt
        first | (go_simp; done) | (go_simp; with_reducible rfl)
      simp only [Act.put, List.setIfInBounds_toArray, List.set_cons_zero, List.set_cons_succ, List.getElem_toArray, List.getElem_cons_zero, List.getElem_cons_succ]
      refine wpAnyH_take (i := 11) (v := ?_) rfl (by kernel_rfl) (by kernel_rfl) (by kernel_rfl) (fun _ _ _ h => h) (Or.inl ⟨by rfl, ?_⟩) (by assumption) ?_
      rotate_left
      · intro wt hSt
        try dsimp only at hSt
        first | (go_simp; done) | (go_simp; with_reducible rfl)
      simp only [Act.put, List.setIfInBounds_toArray, List.set_cons_zero, List.set_cons_succ, List.getElem_toArray, List.getElem_cons_zero, List.getElem_cons_succ]
      refine wpAnyH_take (i := 12) (v := ?_) rfl (by kernel_rfl) (by kernel_rfl) (by kernel_rfl) (fun _ _ _ h => h) (Or.inl ⟨by rfl, ?_⟩) (by assumption) ?_
      rotate_left
      · intro wt hSt
        try dsimp only at hSt
        first | (go_simp; done) | (go_simp; with_reducible rfl)
      simp only [Act.put, List.setIfInBounds_toArray, List.set_cons_zero, List.set_cons_succ, List.getElem_toArray, List.getElem_cons_zero, List.getElem_cons_succ]
      refine wpAnyH_take (i := 13) (v := ?_) rfl (by kernel_rfl) (by kernel_rfl) (by kernel_rfl) (fun _ _ _ h => h) (Or.inl ⟨by rfl, ?_⟩) (by assumption) ?_
      rotate_left
      · intro wt hSt
        try dsimp only at hSt
        first | (go_simp; done) | (go_simp; with_reducible rfl)
      simp only [Act.put, List.setIfInBounds_toArray, List.set_cons_zero, List.set_cons_succ, List.getElem_toArray, List.getElem_cons_zero, List.getElem_cons_succ]
      refine wpAnyH_take (i := 14) (v := undef) rfl (by kernel_rfl) (by kernel_rfl) (by kernel_rfl) (fun _ _ _ h => h) (Or.inr ⟨by rfl, rfl⟩) (by assumption) ?_
      simp only [Act.put, List.setIfInBounds_toArray, List.set_cons_zero, List.set_cons_succ, List.getElem_toArray, List.getElem_cons_zero, List.getElem_cons_succ]
      refine wpAnyH_take (i := 15) (v := undef) rfl (by kernel_rfl) (by kernel_rfl) (by kernel_rfl) (fun _ _ _ h => h) (Or.inr ⟨by rfl, rfl⟩) (by assumption) ?_
      simp only [Act.put, List.setIfInBounds_toArray, List.set_cons_zero, List.set_cons_succ, List.getElem_toArray, List.getElem_cons_zero, List.getElem_cons_succ]
      refine wpAnyH_take (i := 16) (v := undef) rfl (by kernel_rfl) (by kernel_rfl) (by kernel_rfl) (fun _ _ _ h => h) (Or.inr ⟨by rfl, rfl⟩) (by assumption) ?_
      simp only [Act.put, List.setIfInBounds_toArray, List.set_cons_zero, List.set_cons_succ, List.getElem_toArray, List.getElem_cons_zero, List.getElem_cons_succ]
      refine wpAnyH_take (i := 17) (v := undef) rfl (by kernel_rfl) (by kernel_rfl) (by kernel_rfl) (fun _ _ _ h => h) (Or.inr ⟨by rfl, rfl⟩) (by assumption) ?_
      simp only [Act.put, List.setIfInBounds_toArray, List.set_cons_zero, List.set_cons_succ, List.getElem_toArray, List.getElem_cons_zero, List.getElem_cons_succ]
      refine wpAnyH_take (i := 18) (v := undef) rfl (by kernel_rfl) (by kernel_rfl) (by kernel_rfl) (fun _ _ _ h => h) (Or.inr ⟨by rfl, rfl⟩) (by assumption) ?_
      simp only [Act.put, List.setIfInBounds_toArray, List.set_cons_zero, List.set_cons_succ, List.getElem_toArray, List.getElem_cons_zero, List.getElem_cons_succ]
      refine wpAnyH_take (i := 19) (v := undef) rfl (by kernel_rfl) (by kernel_rfl) (by kernel_rfl) (fun _ _ _ h => h) (Or.inr ⟨by rfl, rfl⟩) (by assumption) ?_
      simp only [Act.put, List.setIfInBounds_toArray, List.set_cons_zero, List.set_cons_succ, List.getElem_toArray, List.getElem_cons_zero, List.getElem_cons_succ]
      refine wpAnyH_take (i := 20) (v := undef) rfl (by kernel_rfl) (by kernel_rfl) (by kernel_rfl) (fun _ _ _ h => h) (Or.inr ⟨by rfl, rfl⟩) (by assumption) ?_
      simp only [Act.put, List.setIfInBounds_toArray, List.set_cons_zero, List.set_cons_succ, List.getElem_toArray, List.getElem_cons_zero, List.getElem_cons_succ]
      refine wpAnyH_take (i := 21) (v := undef) rfl (by kernel_rfl) (by kernel_rfl) (by kernel_rfl) (fun _ _ _ h => h) (Or.inr ⟨by rfl, rfl⟩) (by assumption) ?_
      simp only [Act.put, List.setIfInBounds_toArray, List.set_cons_zero, List.set_cons_succ, List.getElem_toArray, List.getElem_cons_zero, List.getElem_cons_succ]
      refine wpAnyH_take (i := 22) (v := undef) rfl (by kernel_rfl) (by kernel_rfl) (by kernel_rfl) (fun _ _ _ h => h) (Or.inr ⟨by rfl, rfl⟩) (by assumption) ?_
      simp only [Act.put, List.setIfInBounds_toArray, List.set_cons_zero, List.set_cons_succ, List.getElem_toArray, List.getElem_cons_zero, List.getElem_cons_succ]
      refine wpAnyH_take (i := 23) (v := undef) rfl (by kernel_rfl) (by kernel_rfl) (by kernel_rfl) (fun _ _ _ h => h) (Or.inr ⟨by rfl, rfl⟩) (by assumption) ?_
      simp only [Act.put, List.setIfInBounds_toArray, List.set_cons_zero, List.set_cons_succ, List.getElem_toArray, List.getElem_cons_zero, List.getElem_cons_succ]
      refine wpAnyH_take (i := 24) (v := undef) rfl (by kernel_rfl) (by kernel_rfl) (by kernel_rfl) (fun _ _ _ h => h) (Or.inr ⟨by rfl, rfl⟩) (by assumption) ?_
      simp only [Act.put, List.setIfInBounds_toArray, List.set_cons_zero, List.set_cons_succ, List.getElem_toArray, List.getElem_cons_zero, List.getElem_cons_succ]
      refine wpAnyH_take (i := 25) (v := ?_) rfl (by kernel_rfl) (by kernel_rfl) (by kernel_rfl) (fun _ _ _ h => h) (Or.inl ⟨by rfl, ?_⟩) (by assumption) ?_
      rotate_left
      · intro wt hSt
        try dsimp only at hSt
        first | (go_simp; done) | (go_simp; with_reducible rfl)
      simp only [Act.put, List.setIfInBounds_toArray, List.set_cons_zero, List.set_cons_succ, List.getElem_toArray, List.getElem_cons_zero, List.getElem_cons_succ]
      refine wpAnyH_take (i := 26) (v := ?_) rfl (by kernel_rfl) (by kernel_rfl) (by kernel_rfl) (fun _ _ _ h => h) (Or.inl ⟨by rfl, ?_⟩) (by assumption) ?_
      rotate_left
      · intro wt hSt
        try dsimp only at hSt
        first | (go_simp; done) | (go_simp; with_reducible rfl)
      simp only [Act.put, List.setIfInBounds_toArray, List.set_cons_zero, List.set_cons_succ, List.getElem_toArray, List.getElem_cons_zero, List.getElem_cons_succ]
      refine wpAnyH_done (by kernel_rfl) ?_ _
      go_wp2_with fail
      go_meet
      case rel => exact ⟨rfl, hHeld⟩
  case rest =>
    obtain ⟨rfl, hb7⟩ := hcut
    have hA7 := hA6.below hb7
    have hv7 := hv6.below hb7
    have hb07 := below_chain hb06 hb7
    have hw27 := below_chain hw26 hb7
    have hw37 := below_chain hw36 hb7
    clear hA6 hv6 hb06 hw26 hw36 hb7 hK HFol
    obtain ⟨y0, y1, y2, y3, y4, y5⟩ := hv7.cells
    go_wp2_with fail
    clear y0 y1 y2 y3 y4 y5
    refine (hOi _ hA7).out.mono ?_
    rintro e w8 ⟨rfl, hb8⟩
    have hb8' := balloc hb8 (.cells #[.int .i64 i0, .int .u64 (i1 : Int), .int .u64 (i2 : Int), .int .i64 i3] 25)
    have hA8 := hA7.below hb8'
    have hv8 := hv7.below hb8'
    have hb08 := below_chain hb07 hb8'
    have hw28 := below_chain hw27 hb8'
    have hw38 := below_chain hw37 hb8'
    clear hA7 hv7 hb07 hw27 hw37 hb8 hb8' hOi
    go_upto_region 14 with fail
    generalize w8.alloc (.cells #[.int .i64 i0, .int .u64 (i1 : Int), .int .u64 (i2 : Int), .int .i64 i3] 25) = v8 at *
    obtain ⟨y0, y1, y2, y3, y4, y5⟩ := hv8.cells
    go_wp2_with fail
    clear y0 y1 y2 y3 y4 y5
    refine (hOo _ hA8).out.mono ?_
    rintro e w9 ⟨rfl, hb9⟩
    have hb9' := balloc hb9 (.cells #[.int .i64 o0, .int .u64 (o1 : Int), .int .u64 (o2 : Int), .int .i64 o3] 25)
    have hA9 := hA8.below hb9'
    have hv9 := hv8.below hb9'
    have hb09 := below_chain hb08 hb9'
    have hw29 := below_chain hw28 hb9'
    have hw39 := below_chain hw38 hb9'
    clear hA8 hv8 hb08 hw28 hw38 hb9 hb9' hOo
    go_upto_region 15 with fail
    generalize w9.alloc (.cells #[.int .i64 o0, .int .u64 (o1 : Int), .int .u64 (o2 : Int), .int .i64 o3] 25) = v9 at *
    have HB := Lib.hid (part_test HG.out fr tq bi bo HIn.out HOut.out)
    go_cut [146] (fun q wx => q = .bool (decide (tq < fr) || (!bi || !bo)) ∧ wx = v9)
    case first =>
      as_aux_lemma =>
      obtain ⟨y0, y1, y2, y3, y4, y5⟩ := hv9.cells
      clear HB HGr HPa HIn HOut hA9 hv9 hw29 hw39 hb09
      cases c1 : decide (tq < fr) with
      | true =>
        go_wp2_with fail
        go_meet
        case rel => exact ⟨by rw [c1]; rfl, rfl⟩
      | false =>
        cases bi with
        | false =>
          go_wp2_with fail
          go_meet
          case rel => exact ⟨by rw [c1]; rfl, rfl⟩
        | true =>
          cases bo with
          | false =>
            go_wp2_with fail
            go_meet
            case rel => exact ⟨by rw [c1]; rfl, rfl⟩
          | true =>
            go_wp2_with fail
            go_meet
            case rel => exact ⟨by rw [c1]; rfl, rfl⟩
    case rest =>
      obtain ⟨rfl, e9⟩ := hcut
      have e9 := e9.symm
      subst e9
      clear HIn HOut
      generalize (decide (tq < fr) || (!bi || !bo)) = q at *
      go_upto_if 146 with fail
      go_cut [] (fun wx => Below v9.heap.size v9 wx)
      case first =>
        as_aux_lemma =>
        cases q with
        | true =>
          have hp := HPa.out _ hw39
          obtain rfl : g = 4 := by rw [← hp.e, HB.out]; rfl
          obtain rfl : nE = 0 := hp.no (by decide)
          clear HB HGr HPa hA9 hv9 hw29 hw39 hb09 hp
          go_wp2_with fail
          go_meet
          case rel => exact Below.refl _ _
        | false =>
          have hp := HPa.out _ hw39
          have e0 : partErr l fr tq = 0 := by rw [HB.out]; rfl
          obtain rfl : g = 0 := by rw [← hp.e, e0]
          obtain ⟨rfl, hrow⟩ := hp.yes rfl
          have hfil := part_filter ((partErr_ok l fr tq).1 e0)
          have HTl : Hid ((partOf l fr tq).length = partLen fr tq ∧ partLen fr tq ≤ 40) := by
            obtain ⟨t1, t2⟩ := ((partErr_ok l fr tq).1 e0).chain
            show _ ∧ _
            exact ⟨t2, by have := t1.len; omega⟩
          have hKl := fun (w : World) hA => Lib.hid (cloneHeads A c l w hpos (by have := HG.out.len; omega) hA)
          have hDel := fun (gr d : Nat) (W : World) (hd : d ≤ maxLen) (hld : l.length ≤ d) (hgb : v9.heap.size ≤ gr) (hW : v9.heap.size ≤ W.heap.size) hx hf ht => Lib.hid (deleteOut fr tq w.heap.size (w.heap.size + 1) gr d l v9.heap.size W (by have := HG.out.len; omega) hd hld hgb hW hx (World.block_lt_of_cell? _ _ hv9.c0) (World.block_lt_of_cell? _ _ hv9.c1) hf ht _ hfil)
          clear HB HGr HPa hw29 hw39 hb09 hp e0 hfil
          generalize partOf l fr tq = T at *
          go_wp2_with fail
          refine (hKl _ hA9).out.mono ?_
          rintro e x1 ⟨R, d1, rfl, hown, hbx⟩
          obtain ⟨gr, cr, hRe, hgr1, -⟩ := hown.form hpos
          injection hRe with hRe hRe2 hRe3
          subst hRe; subst hRe3
          have hvx := hv9.below hbx
          obtain ⟨hdx, hdm⟩ := own_cap hown
          have hE2 := fun (W : World) B b hB hA => Lib.hid (eqHeads E B d' b T T W (by rw [HTl.out.1]; have := HTl.out.2; unfold maxLen; omega) true (by simp) hB hA)
          go_wp2_with fail
          refine (hDel gr d1 _ hdm hdx hgr1 hbx.size (own_bx hown) hvx.c0 hvx.c1).out.mono ?_
          rintro e x2 ⟨rfl, hrow2, hbd⟩
          have hbd2 := hbx.trans hbd
          have hrow3 := hrow.below hbd2
          clear hKl hDel hown hvx hbx hbd hA9 hv9 hrow
          go_wp2_with fail
          refine (hE2 _ _ _ hrow3 hrow2).out.mono ?_
          rintro e x3 ⟨rfl, q, rfl⟩
          clear hE2 hrow2 hrow3
          go_wp2_with fail
          go_meet
          case rel => exact below_drewN hbd2 _
      case rest =>
        clear HB HPa hw39
        have hA10 := hA9.below hcut
        have hb010 := below_chain hb09 hcut
        have hw210 := below_chain hw29 hcut
        clear hA9 hv9 hb09 hw29 hcut
        go_upto_region 21 with fail
        have hGr := HGr.out _ hw210
        obtain ⟨⟨e0, e1, e2, e3⟩, hlast⟩ : ∃ x, lastH l = x := ⟨_, rfl⟩
        obtain ⟨g7, g40⟩ := grow_cases HG.out nr na _ hlast
        dsimp only at g7 g40
        have hlen := HG.out.len
        obtain ⟨n, hn⟩ : ∃ n, l.length = n + 1 := ⟨l.length - 1, by omega⟩
        have hnl : n < l.length := by omega
        have hlm : l[n] = (e0, e1, e2, e3) := by rw [← hlast, lastH_at hn]
        obtain ⟨gl, off, rfl, j0, j1, j2, j3⟩ := hA10.head n hnl
        rw [hlm] at j0 j1 j2 j3
        dsimp only at j0 j1 j2 j3
        have hzl := Bx.new wc _ rfl _ [.int .i64 e0, .int .u64 (e1 : Int), .int .u64 (e2 : Int), .int .i64 e3] 25 rfl
        have hbl := balloc hb010 (.cells #[.int .i64 e0, .int .u64 (e1 : Int), .int .u64 (e2 : Int), .int .i64 e3] 25)
        have k0 : IntKind.i64.wrap ((l.length : Int) - 1) = (n : Int) := by rw [IntKind.wrap_i64]; omega
        have k1 : (0 : Int) ≤ (n : Int) := by omega
        have k2 : (n : Int) < (l.length : Int) := by omega
        have k3 : (l.length : Int) - 1 = (n : Int) := by omega
        have k4 : (0 : Int) < (l.length : Int) := by omega
        obtain ⟨⟨z0, z1, z2, z3⟩, -⟩ := hzl.get4
        as_aux_lemma =>
        by_cases q7 : l.length = 40 ∨ e0 = 1000000
        · obtain rfl : f = 7 := by rw [← hGr.e, g7 q7]
          obtain rfl : nD = 0 := hGr.no (by decide)
          by_cases q8 : l.length = 40
          · have c1 : ((l.length : Int) == 40) = true := beq_iff_eq.2 (by omega)
            clear hGr g7 g40 hn hlm hA10 hzl hb010 hw210 HGr q7 q8 HG hg
            go_wp2
            go_ret
            exact ⟨rfl, hbl⟩
          · have c1 : ((l.length : Int) == 40) = false := beq_eq_false_iff_ne.2 (by omega)
            have c2 : (e0 == 1000000) = true := beq_iff_eq.2 (by omega)
            clear hGr g7 g40 hn hlm hA10 hzl hb010 hw210 HGr q7 q8 HG hg
            go_wp2
            go_ret
            exact ⟨rfl, hbl⟩
        · have c1 : ((l.length : Int) == 40) = false := beq_eq_false_iff_ne.2 (by omega)
          have c2 : (e0 == 1000000) = false := beq_eq_false_iff_ne.2 (by omega)
          obtain ⟨g4, gok⟩ := g40 q7
          by_cases q4 : 2305843009213693951 ≤ nr ∨ na < e3 ∨ 1000000000 < na
          · obtain rfl : f = 4 := by rw [← hGr.e, g4 q4]
            obtain rfl : nD = 0 := hGr.no (by decide)
            by_cases q5 : 2305843009213693951 ≤ nr
            · have c3 : decide ((2305843009213693951 : Int) ≤ (nr : Int)) = true := decide_eq_true (by omega)
              clear hGr g7 g40 hn hlm hA10 hzl hb010 hw210 HGr q7 q4 q5 HG hg g4 gok
              go_wp2
              go_ret
              exact ⟨rfl, hbl⟩
            · have c3 : decide ((2305843009213693951 : Int) ≤ (nr : Int)) = false := decide_eq_false (by omega)
              by_cases q6 : na < e3
              · have c4 : decide (na < e3) = true := decide_eq_true q6
                clear hGr g7 g40 hn hlm hA10 hzl hb010 hw210 HGr q7 q4 q5 q6 HG hg g4 gok
                go_wp2
                go_ret
                exact ⟨rfl, hbl⟩
              · have c4 : decide (na < e3) = false := decide_eq_false q6
                have c5 : decide (1000000000 < na) = true := decide_eq_true (by omega)
                clear hGr g7 g40 hn hlm hA10 hzl hb010 hw210 HGr q7 q4 q5 q6 HG hg g4 gok
                go_wp2
                go_ret
                exact ⟨rfl, hbl⟩
          · as_aux_lemma =>
            have ok := gok q4
            have c3 : decide ((2305843009213693951 : Int) ≤ (nr : Int)) = false := decide_eq_false (by omega)
            have c4 : decide (na < e3) = false := decide_eq_false (by omega)
            have c5 : decide (1000000000 < na) = false := decide_eq_false (by omega)
            obtain rfl : f = 0 := by rw [← hGr.e, (growErr_ok _ _ _).2 ok]
            obtain ⟨q, hq⟩ : ∃ q, e0 + 1 = q := ⟨_, rfl⟩
            obtain ⟨m, hm⟩ : ∃ m, hmark (e0, e1, e2, e3) = m := ⟨_, rfl⟩
            have hgl := lastH_good HG.out
            rw [hlast] at hgl
            have hwq : IntKind.i64.wrap (e0 + 1) = q := by
              have h1 := hgl.e0
              have h2 := hgl.e1
              dsimp only at h1 h2
              rw [IntKind.wrap_i64]
              omega
            obtain ⟨rfl, hDrow⟩ := hGr.yes rfl
            have hGeq : Hid (l ++ [((q, nr, m, na) : Hd)] = l ++ [nextOf (lastH l) nr na]) := by show _ = _; rw [hlast, nextOf, hq, hm]
            have hGl : (l ++ [nextOf (lastH l) nr na]).length = l.length + 1 := by simp
            have hMk := fun w => Lib.hid (refHMark e0 e1 e2 e3 w hgl m hm)
            have hKl := fun (w : World) hA => Lib.hid (cloneHeads (some ⟨gl, off, none⟩) c l w hpos (by omega) hA)
            have HQ := Lib.hid hq
            generalize l ++ [nextOf (lastH l) nr na] = G at *
            have hEq := fun (W : World) B b hB hA => Lib.hid (eqHeads D B d b G G W (by unfold maxLen; omega) true (by simp) hB hA)
            have hsm : (l.length + [((q, nr, m, na) : Hd)].length) * 32 ≤ 140737488355328 := by simp; omega
            have h1l : 0 < [((q, nr, m, na) : Hd)].length := by simp
            have hD1 := hDrow.alloc (.cells #[.int .i64 e0, .int .u64 (e1 : Int), .int .u64 (e2 : Int), .int .i64 e3] 25)
            have hA1 := hA10.alloc (.cells #[.int .i64 e0, .int .u64 (e1 : Int), .int .u64 (e2 : Int), .int .i64 e3] 25)
            have q1 : ¬ 2305843009213693951 ≤ nr := by omega
            have q2 : ¬ na < e3 := by omega
            have q3 : ¬ 1000000000 < na := by omega
            clear hGr g7 g40 hn hlm hA10 hzl hb010 hw210 HGr q7 q4 HG hg g4 gok ok hq hm hgl hlast hGl hlen hDrow
            go_wp2_with fail
            generalize wc.alloc (.cells #[.int .i64 e0, .int .u64 (e1 : Int), .int .u64 (e2 : Int), .int .i64 e3] 25) = vL at *
            generalize wc.heap.size = gL at *
            have hsL := hbl.size
            obtain ⟨z0, z1, z2, z3⟩ : vL.cell? ⟨gL, 0, none⟩ = some (.int .i64 e0) ∧ vL.cell? ⟨gL, 1, none⟩ = some (.int .u64 (e1 : Int)) ∧ vL.cell? ⟨gL, 2, none⟩ = some (.int .u64 (e2 : Int)) ∧ vL.cell? ⟨gL, 3, none⟩ = some (.int .i64 e3) := ⟨z0, z1, z2, z3⟩
            have hb9 : Below vL.heap.size vL vL.drew := bdrew (Below.refl _ _)
            refine wp_region_held_drew (S := fun W => W.cell? ⟨gL, 0, none⟩ = some (.int .i64 e0) ∧ W.cell? ⟨gL, 1, none⟩ = some (.int .u64 (e1 : Int)) ∧ W.cell? ⟨gL, 2, none⟩ = some (.int .u64 (e2 : Int)) ∧ W.cell? ⟨gL, 3, none⟩ = some (.int .i64 e3) ∧ Below vL.heap.size vL W) (by kernel_rfl) ⟨kept z0 hb9, kept z1 hb9, kept z2 hb9, kept z3 hb9, hb9⟩ (fun hHeld => ?_)
            refine wpAnyH_take (i := 0) (v := ?_) rfl (by kernel_rfl) (by kernel_rfl) (by kernel_rfl) (fun _ _ _ h => h) (Or.inl ⟨by rfl, ?_⟩) (by assumption) ?_
            rotate_left
            · intro wt hSt
              try dsimp only at hSt
              first | (go_simp; done) | (go_simp; with_reducible rfl)
            simp only [Act.put, List.setIfInBounds_toArray, List.set_cons_zero, List.set_cons_succ, List.getElem_toArray, List.getElem_cons_zero]
            refine wpAnyH_take (i := 1) (v := ?_) rfl (by kernel_rfl) (by kernel_rfl) (by kernel_rfl) (fun _ _ _ h => h) (Or.inl ⟨by rfl, ?_⟩) (by assumption) ?_
            rotate_left
            · intro wt hSt
              try dsimp only at hSt
              first | (go_simp; done) | (go_simp; with_reducible rfl)
            simp only [Act.put, List.setIfInBounds_toArray, List.set_cons_zero, List.set_cons_succ, List.getElem_toArray, List.getElem_cons_zero, List.getElem_cons_succ]
            refine wpAnyH_take (i := 2) (v := ?_) rfl (by kernel_rfl) (by kernel_rfl) (by kernel_rfl) (fun _ _ _ h => h) (Or.inl ⟨by rfl, ?_⟩) (by assumption) ?_
            rotate_left
            · intro wt hSt
              try dsimp only at hSt
              first | (go_simp; done) | (go_simp; with_reducible rfl)
            simp only [Act.put, List.setIfInBounds_toArray, List.set_cons_zero, List.set_cons_succ, List.getElem_toArray, List.getElem_cons_zero, List.getElem_cons_succ]
            refine wpAnyH_take (i := 3) (v := ?_) rfl (by kernel_rfl) (by kernel_rfl) (by kernel_rfl) (fun _ _ _ h => h) (Or.inl ⟨by rfl, ?_⟩) (by assumption) ?_
            rotate_left
            · intro wt hSt
              try dsimp only at hSt
              first | (go_simp; done) | (go_simp; with_reducible rfl)
            simp only [Act.put, List.setIfInBounds_toArray, List.set_cons_zero, List.set_cons_succ, List.getElem_toArray, List.getElem_cons_zero, List.getElem_cons_succ]
            refine wpAnyH_take (i := 4) (v := ?_) rfl (by kernel_rfl) (by kernel_rfl) (by kernel_rfl) (fun _ _ _ h => h) (Or.inl ⟨by rfl, ?_⟩) (by assumption) ?_
            rotate_left
            · intro wt hSt
              try dsimp only at hSt
              first | (go_simp; done) | (go_simp; with_reducible rfl)
            simp only [Act.put, List.setIfInBounds_toArray, List.set_cons_zero, List.set_cons_succ, List.getElem_toArray, List.getElem_cons_zero, List.getElem_cons_succ]
            refine wpAnyH_take (i := 6) (v := ?_) rfl (by kernel_rfl) (by kernel_rfl) (by kernel_rfl) (fun _ _ _ h => h) (Or.inl ⟨by rfl, ?_⟩) (by assumption) ?_
            rotate_left
            · intro wt hSt
              try dsimp only at hSt
              first | (go_simp; done) | (go_simp; with_reducible rfl)
            simp only [Act.put, List.setIfInBounds_toArray, List.set_cons_zero, List.set_cons_succ, List.getElem_toArray, List.getElem_cons_zero, List.getElem_cons_succ]
            refine wpAnyH_take (i := 7) (v := ?_) rfl (by kernel_rfl) (by kernel_rfl) (by kernel_rfl) (fun _ _ _ h => h) (Or.inl ⟨by rfl, ?_⟩) (by assumption) ?_
            rotate_left
            · intro wt hSt
              try dsimp only at hSt
              first | (go_simp; done) | (go_simp; with_reducible rfl)
            simp only [Act.put, List.setIfInBounds_toArray, List.set_cons_zero, List.set_cons_succ, List.getElem_toArray, List.getElem_cons_zero, List.getElem_cons_succ]
            refine wpAnyH_take (i := 8) (v := ?_) rfl (by kernel_rfl) (by kernel_rfl) (by kernel_rfl) (fun _ _ _ h => h) (Or.inl ⟨by rfl, ?_⟩) (by assumption) ?_
            rotate_left
            · intro wt hSt
              try dsimp only at hSt
              first | (go_simp; done) | (go_simp; with_reducible rfl)
            simp only [Act.put, List.setIfInBounds_toArray, List.set_cons_zero, List.set_cons_succ, List.getElem_toArray, List.getElem_cons_zero, List.getElem_cons_succ]
            refine wpAnyH_take (i := 9) (v := ?_) rfl (by kernel_rfl) (by kernel_rfl) (by kernel_rfl) (fun _ _ _ h => h) (Or.inl ⟨by rfl, ?_⟩) (by assumption) ?_
            rotate_left
            · intro wt hSt
              try dsimp only at hSt
              first | (go_simp; done) | (go_simp; with_reducible rfl)
            simp only [Act.put, List.setIfInBounds_toArray, List.set_cons_zero, List.set_cons_succ, List.getElem_toArray, List.getElem_cons_zero, List.getElem_cons_succ]
            refine wpAnyH_take (i := 10) (v := ?_) rfl (by kernel_rfl) (by kernel_rfl) (by kernel_rfl) (fun _ _ _ h => h) (Or.inl ⟨by rfl, ?_⟩) (by assumption) ?_
            rotate_left
            · intro wt hSt
              try dsimp only at hSt
              first | (go_simp; done) | (go_simp; with_reducible rfl)
            simp only [Act.put, List.setIfInBounds_toArray, List.set_cons_zero, List.set_cons_succ, List.getElem_toArray, List.getElem_cons_zero, List.getElem_cons_succ]
            refine wpAnyH_take (i := 12) (v := ?_) rfl (by kernel_rfl) (by kernel_rfl) (by kernel_rfl) (fun _ _ _ h => h) (Or.inl ⟨by rfl, ?_⟩) (by assumption) ?_
            rotate_left
            · intro wt hSt
              try dsimp only at hSt
              first | (go_simp; done) | (go_simp; with_reducible rfl)
            simp only [Act.put, List.setIfInBounds_toArray, List.set_cons_zero, List.set_cons_succ, List.getElem_toArray, List.getElem_cons_zero, List.getElem_cons_succ]
            refine wpAnyH_ready (rs := [5]) (by kernel_rfl) (by simp) ?_
            refine AllReadyH.cons rfl (fun K hK => ?_) AllReadyH.nil
            go_simp
            go_at_call 17
            refine (hKl vL.drew hA1).out.mono ?_
            rintro e x1 ⟨R, d1, rfl, hown, hbx⟩
            have hbX : Below vL.heap.size vL x1 := below_chain hb9 hbx
            have hown1 : x1.ownsRow vL.heap.size 25 4 (.slice R l.length d1) l.length (hcells l) := own_base hown (Nat.le_of_eq (by simp))
            go_wp2_with fail
            refine hK.out _ _ ⟨kept z0 hbX, kept z1 hbX, kept z2 hbX, kept z3 hbX, hbX⟩ (fun hHeld => ?_)
            clear hK K
            refine wpAnyH_ready (rs := [11]) (by kernel_rfl) (by simp) ?_
            refine AllReadyH.cons rfl (fun K hK => ?_) AllReadyH.nil
            go_simp
            go_at_call 20
            refine (hMk _).out.mono ?_
            rintro e x2 ⟨rfl, hby⟩
            have hbY := below_chain hbX hby
            have hown2 := own_belowN hown1 hby
            go_wp2_with fail
            refine hK.out _ _ ⟨kept z0 hbY, kept z1 hbY, kept z2 hbY, kept z3 hbY, hbY⟩ (fun hHeld => ?_)
            clear hK K
            refine wpAnyH_take (i := 13) (v := ?_) rfl (by kernel_rfl) (by kernel_rfl) (by kernel_rfl) (fun _ _ _ h => h) (Or.inl ⟨by rfl, ?_⟩) (by assumption) ?_
            rotate_left
            · intro wt hSt
              try dsimp only at hSt
              first | (go_simp; done) | (go_simp; with_reducible rfl)
            simp only [Act.put, List.setIfInBounds_toArray, List.set_cons_zero, List.set_cons_succ, List.getElem_toArray, List.getElem_cons_zero, List.getElem_cons_succ]
            refine wpAnyH_ready (rs := [14]) (by kernel_rfl) (by simp) ?_
            refine AllReadyH.cons rfl (fun K hK => ?_) AllReadyH.nil
            go_simp
            have hbU := balloc hbY (.cells #[.int .i64 q, .int .u64 (nr : Int), .int .u64 (m : Int), .int .i64 na] 25)
            have hown3 := hown2.alloc (.cells #[.int .i64 q, .int .u64 (nr : Int), .int .u64 (m : Int), .int .i64 na] 25)
            refine hK.out _ _ ⟨kept z0 hbU, kept z1 hbU, kept z2 hbU, kept z3 hbU, hbU⟩ (fun hHeld => ?_)
            clear hK K
            refine wpAnyH_ready (rs := [15]) (by kernel_rfl) (by simp) ?_
            refine AllReadyH.cons rfl (fun K hK => ?_) AllReadyH.nil
            refine step_app_headsG (by rfl) (.tmp 213) (.tmp 222) rfl vL.heap.size _ l ?_ hown3 (some ⟨x2.heap.size, 0, none⟩) 1 [(q, nr, m, na)] ?_ (head_one x2 (q, nr, m, na) _) h1l hsm ?_ ?_
            · first | rfl | simp [Act.eval, Act.put]
            · first | rfl | simp [Act.eval, Act.put]
            · exact hbU.size
            intro v5 x3 hown5 hgrow5
            rw [hGeq.out] at hown5
            have hbV : Below vL.heap.size vL x3 := hbU.grown hgrow5 hbU.size (fun j hj => (hown3.lt j hj).1)
            obtain ⟨D5, d5, rfl⟩ := own_shape hown5
            have hR5 := Row.ownN hown5
            have hD5 := hD1.below hbV
            refine hK.out _ _ ⟨kept z0 hbV, kept z1 hbV, kept z2 hbV, kept z3 hbV, hbV⟩ (fun hHeld => ?_)
            clear hK K
            try simp only [Act.put, List.setIfInBounds_toArray, List.set_cons_zero, List.set_cons_succ, List.getElem_toArray, List.getElem_cons_zero, List.getElem_cons_succ]
            refine wpAnyH_ready (rs := [16]) (by kernel_rfl) (by simp) ?_
            refine AllReadyH.cons rfl (fun K hK => ?_) AllReadyH.nil
            go_simp
            go_at_call 19
            refine (hEq _ _ _ hD5 hR5).out.mono ?_
            rintro e x4 ⟨rfl, s, rfl⟩
            go_wp2_with fail
            refine hK.out _ _ ⟨kept z0 (below_drewN hbV s), kept z1 (below_drewN hbV s), kept z2 (below_drewN hbV s), kept z3 (below_drewN hbV s), (below_drewN hbV s)⟩ (fun hHeld => ?_)
            clear hK K
            refine wpAnyH_take (i := 17) (v := ?_) rfl (by kernel_rfl) (by kernel_rfl) (by kernel_rfl) (fun _ _ _ h => h) (Or.inl ⟨by rfl, ?_⟩) (by assumption) ?_
            rotate_left
            · intro wt hSt
              try dsimp only at hSt
              first | (go_simp; done) | (go_simp; with_reducible rfl)
            simp only [Act.put, List.setIfInBounds_toArray, List.set_cons_zero, List.set_cons_succ, List.getElem_toArray, List.getElem_cons_zero, List.getElem_cons_succ]
            refine wpAnyH_take (i := 18) (v := ?_) rfl (by kernel_rfl) (by kernel_rfl) (by kernel_rfl) (fun _ _ _ h => h) (Or.inl ⟨by rfl, ?_⟩) (by assumption) ?_
            rotate_left
            · intro wt hSt
              try dsimp only at hSt
              first | (go_simp; done) | (go_simp; with_reducible rfl)
            simp only [Act.put, List.setIfInBounds_toArray, List.set_cons_zero, List.set_cons_succ, List.getElem_toArray, List.getElem_cons_zero, List.getElem_cons_succ]
            refine wpAnyH_done (by kernel_rfl) ?_ _
            go_wp2_with fail
            go_ret
            exact ⟨rfl, below_chain hbl (below_drewN hbV s)⟩
end Go.Proofs.Ythkhafgcpmoalaa
