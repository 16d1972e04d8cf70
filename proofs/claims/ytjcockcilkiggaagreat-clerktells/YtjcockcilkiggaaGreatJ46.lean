/- The reference: ClerkFault returns the first error of a clerk. It writes nothing that was there. -/
import Derived.Test.YtjcockcilkiggaaGreatJ17
import Derived.Test.YtjcockcilkiggaaGreatJ43
import Derived.Test.YtjcockcilkiggaaGreatJ45
import Derived.Deep.RegionHeld3
namespace Go.Proofs.YtjcockcilkiggaaGreat
set_option maxRecDepth 100000
open Go.RowKit

set_option maxHeartbeats 8000000 in
theorem refClerkFault (most ba ev nw : Int) (l : List Ak) (hs : List Hd) (ps : List Bp) (A H B : Option Addr) (c d e : Nat) (w : World) (hl : l.length ≤ maxLen) (hlf : ∀ x ∈ l, AkFits x) (hh : hs.length ≤ maxLen) (_hp : ps.length ≤ maxLen) (hpb : ∀ p ∈ ps, p.2.2.length ≤ maxLen ∧ ∀ x ∈ p.2.2, x.1.length ≤ maxLen ∧ x.2.length ≤ maxLen)
    (hA : Row w A (qcells l)) (hH : Row w H (hcells hs)) (hB : Books w B ps) (r : Int) (hr : ckfault ⟨most, l, ba, ev, nw, hs, bks ps⟩ = r) :
    Calls Tryz.prog 10 #[.agg #[.int .i64 most, .slice A l.length c, .int .i64 ba, .int .i64 ev, .int .i64 nw, .slice H hs.length d, .slice B ps.length e]] w fun x w' => x = .returned (.int .i64 r) ∧ Below w.heap.size w w' := by
  obtain ⟨qf, hqf⟩ : ∃ u, qfault most l = u := ⟨_, rfl⟩
  obtain ⟨⟨cf, cp⟩, hcf⟩ : ∃ u, cfault hs = u := ⟨_, rfl⟩
  have hQ := fun (w : World) hA => Lib.hid (refQueueFault most A c l w hl hlf hA qf hqf)
  have hC := fun (w : World) hH => Lib.hid (refCFault H d hs w hh hH cf cp hcf)
  have x0 := Bx.new w _ rfl _ [.int .i64 most, .slice A l.length c, .int .i64 ba, .int .i64 ev, .int .i64 nw, .slice H hs.length d, .slice B ps.length e] 28 rfl
  have hb0 := (Below.refl w.heap.size w).alloc (Nat.le_refl _) (.cells #[.int .i64 most, .slice A l.length c, .int .i64 ba, .int .i64 ev, .int .i64 nw, .slice H hs.length d, .slice B ps.length e] 28)
  have hA0 := hA.alloc (.cells #[.int .i64 most, .slice A l.length c, .int .i64 ba, .int .i64 ev, .int .i64 nw, .slice H hs.length d, .slice B ps.length e] 28)
  have hH0 := hH.alloc (.cells #[.int .i64 most, .slice A l.length c, .int .i64 ba, .int .i64 ev, .int .i64 nw, .slice H hs.length d, .slice B ps.length e] 28)
  have hB0 := hB.alloc (.cells #[.int .i64 most, .slice A l.length c, .int .i64 ba, .int .i64 ev, .int .i64 nw, .slice H hs.length d, .slice B ps.length e] 28)
  obtain ⟨a0, a1, a2, a3, a4, a5, a6⟩ := x0.get7
  unfold ckfault at hr
  dsimp only at hr
  rw [hqf, hcf] at hr
  dsimp only at hr
  by_cases k0 : qf = 0
  case neg =>
    rw [if_neg k0] at hr
    subst hr
    have c0 : (qf != 0) = true := bne_iff_ne.2 k0
    clear hqf hcf hlf hpb hA hH hB hH0 hB0 k0 hC x0
    go_enter Tryz.func10, Tryz.ntmps10
    go_wp2_with fail
    refine (hQ _ hA0).out.mono ?_
    rintro x w1 ⟨rfl, hbn⟩
    have hb1 := below_chain hb0 hbn
    clear a0 a1 a2 a3 a4 a5 a6
    go_wp2
    go_ret
    exact ⟨rfl, hb1⟩
  case pos =>
    rw [if_pos k0] at hr
    subst k0
    have hqg : QGood most l := (qfault_ok _ _).1 hqf
    by_cases k1 : rangeBad ⟨most, l, ba, ev, nw, hs, bks ps⟩
    case pos =>
      rw [if_pos k1] at hr
      subst hr
      unfold rangeBad at k1
      dsimp only at k1
      clear hqf hcf hlf hpb hA hH hB hH0 hB0 hC hqg
      cases c1 : decide (ba < 1) with
      | true =>
        clear k1
        go_enter Tryz.func10, Tryz.ntmps10
        go_wp2_with fail
        refine (hQ _ hA0).out.mono ?_
        rintro x w1 ⟨rfl, hbn⟩
        have hb1 := below_chain hb0 hbn
        have x1 := x0.below hbn
        clear a0 a1 a2 a3 a4 a5 a6 x0
        obtain ⟨a0, a1, a2, a3, a4, a5, a6⟩ := x1.get7
        go_wp2
        go_ret
        exact ⟨rfl, hb1⟩
      | false =>
      cases c2 : decide (30 < ba) with
      | true =>
        clear k1
        go_enter Tryz.func10, Tryz.ntmps10
        go_wp2_with fail
        refine (hQ _ hA0).out.mono ?_
        rintro x w1 ⟨rfl, hbn⟩
        have hb1 := below_chain hb0 hbn
        have x1 := x0.below hbn
        clear a0 a1 a2 a3 a4 a5 a6 x0
        obtain ⟨a0, a1, a2, a3, a4, a5, a6⟩ := x1.get7
        go_wp2
        go_ret
        exact ⟨rfl, hb1⟩
      | false =>
      cases c3 : decide (ev < 1) with
      | true =>
        clear k1
        go_enter Tryz.func10, Tryz.ntmps10
        go_wp2_with fail
        refine (hQ _ hA0).out.mono ?_
        rintro x w1 ⟨rfl, hbn⟩
        have hb1 := below_chain hb0 hbn
        have x1 := x0.below hbn
        clear a0 a1 a2 a3 a4 a5 a6 x0
        obtain ⟨a0, a1, a2, a3, a4, a5, a6⟩ := x1.get7
        go_wp2
        go_ret
        exact ⟨rfl, hb1⟩
      | false =>
      cases c4 : decide (1000 < ev) with
      | true =>
        clear k1
        go_enter Tryz.func10, Tryz.ntmps10
        go_wp2_with fail
        refine (hQ _ hA0).out.mono ?_
        rintro x w1 ⟨rfl, hbn⟩
        have hb1 := below_chain hb0 hbn
        have x1 := x0.below hbn
        clear a0 a1 a2 a3 a4 a5 a6 x0
        obtain ⟨a0, a1, a2, a3, a4, a5, a6⟩ := x1.get7
        go_wp2
        go_ret
        exact ⟨rfl, hb1⟩
      | false =>
      cases c5 : decide (nw < 0) with
      | true =>
        clear k1
        go_enter Tryz.func10, Tryz.ntmps10
        go_wp2_with fail
        refine (hQ _ hA0).out.mono ?_
        rintro x w1 ⟨rfl, hbn⟩
        have hb1 := below_chain hb0 hbn
        have x1 := x0.below hbn
        clear a0 a1 a2 a3 a4 a5 a6 x0
        obtain ⟨a0, a1, a2, a3, a4, a5, a6⟩ := x1.get7
        go_wp2
        go_ret
        exact ⟨rfl, hb1⟩
      | false =>
      cases c6 : decide (1000000000 < nw) with
      | true =>
        clear k1
        go_enter Tryz.func10, Tryz.ntmps10
        go_wp2_with fail
        refine (hQ _ hA0).out.mono ?_
        rintro x w1 ⟨rfl, hbn⟩
        have hb1 := below_chain hb0 hbn
        have x1 := x0.below hbn
        clear a0 a1 a2 a3 a4 a5 a6 x0
        obtain ⟨a0, a1, a2, a3, a4, a5, a6⟩ := x1.get7
        go_wp2
        go_ret
        exact ⟨rfl, hb1⟩
      | false =>
      exact absurd k1 (by simp only [decide_eq_false_iff_not] at c1 c2 c3 c4 c5 c6; omega)
    case neg =>
      rw [if_neg k1] at hr
      unfold rangeBad at k1
      dsimp only at k1
      have c1 : decide (ba < 1) = false := decide_eq_false (by omega)
      have c2 : decide (30 < ba) = false := decide_eq_false (by omega)
      have c3 : decide (ev < 1) = false := decide_eq_false (by omega)
      have c4 : decide (1000 < ev) = false := decide_eq_false (by omega)
      have c5 : decide (nw < 0) = false := decide_eq_false (by omega)
      have c6 : decide (1000000000 < nw) = false := decide_eq_false (by omega)
      clear k1
      by_cases k2 : cf = 0
      case neg =>
        rw [if_neg k2] at hr
        subst hr
        have cc : (cf != 0) = true := bne_iff_ne.2 k2
        clear hqf hcf hlf hpb hA hH hB hB0 k2 hqg
        go_enter Tryz.func10, Tryz.ntmps10
        go_wp2_with fail
        refine (hQ _ hA0).out.mono ?_
        rintro x w1 ⟨rfl, hbn⟩
        have hb1 := below_chain hb0 hbn
        have x1 := x0.below hbn
        clear a0 a1 a2 a3 a4 a5 a6 x0
        obtain ⟨a0, a1, a2, a3, a4, a5, a6⟩ := x1.get7
        have hH1 := hH0.below hbn
        clear hbn hH0 hA0 hQ
        go_wp2_with fail
        refine (hC _ hH1).out.mono ?_
        rintro x w2 ⟨rfl, hbn⟩
        have hb2 := below_chain hb1 hbn
        have x2 := x1.below hbn
        clear a0 a1 a2 a3 a4 a5 a6 x1 hC hb1
        go_wp2
        go_ret
        exact ⟨rfl, hb2⟩
      case pos =>
        rw [if_pos k2] at hr
        subst k2
        have hcg : CGood hs := (cfault_ok hs).1 (by rw [hcf])
        obtain ⟨n, hn⟩ : ∃ n, hs.length = n + 1 := ⟨hs.length - 1, by have := hcg.pos; omega⟩
        have hl40 := hcg.len
        have hpos := hcg.pos
        have hn' : n < hs.length := by omega
        have hlast : lastH hs = hs[n] := lastH_at hn
        have hfirst := firstH_at hpos
        have i0 : (0 : Int) < (hs.length : Int) := by omega
        have i1 : (0 : Int) ≤ (n : Int) := by omega
        have i2 : (n : Int) < (hs.length : Int) := by omega
        have i3 : (hs.length : Int) - 1 = (n : Int) := by omega
        have HYtjcockcilkiggaaGreat := Lib.hid hn
        clear hcf hA hH hB hqf hn
        go_enter Tryz.func10, Tryz.ntmps10
        go_wp2_with fail
        refine (hQ _ hA0).out.mono ?_
        rintro x w1 ⟨rfl, hbn⟩
        have hb1 := below_chain hb0 hbn
        have x1 := x0.below hbn
        clear a0 a1 a2 a3 a4 a5 a6 x0
        obtain ⟨a0, a1, a2, a3, a4, a5, a6⟩ := x1.get7
        have hH1 := hH0.below hbn
        have hB1 := hB0.below hbn
        have hA1 := hA0.below hbn
        clear hbn hH0 hA0 hB0 hQ
        go_wp2_with fail
        refine (hC _ hH1).out.mono ?_
        rintro x w2 ⟨rfl, hbn⟩
        have hb2 := below_chain hb1 hbn
        have x2 := x1.below hbn
        clear a0 a1 a2 a3 a4 a5 a6 x1 hC hb1
        have hH2 := hH1.below hbn
        have hB2 := hB1.below hbn
        have hA2 := hA1.below hbn
        clear hH1 hB1 hA1 hbn
        obtain ⟨a0, a1, a2, a3, a4, a5, a6⟩ := x2.get7
        obtain ⟨gH, oH, rfl, j0, j1, j2, j3⟩ := hH2.head 0 hpos
        obtain ⟨gH', oH', eH, l0, l1, l2, l3⟩ := hH2.head n hn'
        injection eH with eH
        injection eH with e1 e2 _
        subst e1; subst e2
        rw [← hfirst, Nat.zero_mul, Nat.add_zero] at j0
        rw [← hlast] at l3
        clear hfirst hlast
        unfold formBad at hr
        dsimp only at hr
        rw [bks_length] at hr
        generalize (firstH hs).1 = ep0 at *
        generalize (lastH hs).2.2.2 = tmL at *
        go_wp2
        by_cases d1 : ep0 = 0
        case neg =>
          rw [if_pos (.inl d1)] at hr
          subst hr
          have cd : (ep0 != 0) = true := bne_iff_ne.2 d1
          clear d1 hpb hlf
          go_quiet (fail)
          go_wp2
          go_ret
          exact ⟨rfl, below_chain hb2 (below_of_drewN _ _ _)⟩
        case pos =>
          subst d1
          by_cases d2 : ps.length = hs.length
          case neg =>
            rw [if_pos (.inr (.inl d2))] at hr
            subst hr
            have cd : ((ps.length : Int) != (hs.length : Int)) = true := by simp; omega
            clear hpb hlf d2
            go_quiet (fail)
            go_wp2
            go_ret
            exact ⟨rfl, below_chain hb2 (below_of_drewN _ _ _)⟩
          case pos =>
            by_cases d3 : nw < tmL
            case pos =>
              rw [if_pos (.inr (.inr d3))] at hr
              subst hr
              have cd : ((ps.length : Int) != (hs.length : Int)) = false := by simp [d2]
              have cd3 : decide (nw < tmL) = true := decide_eq_true d3
              clear hpb hlf d2 d3
              go_quiet (fail)
              go_wp2
              go_ret
              exact ⟨rfl, below_chain hb2 (below_of_drewN _ _ _)⟩
            case neg =>
              rw [if_neg (by rintro (h | h | h); exact h rfl; exact h d2; exact d3 h)] at hr
              have cd : ((ps.length : Int) != (hs.length : Int)) = false := by simp [d2]
              have cd3 : decide (nw < tmL) = false := decide_eq_false d3
              have HD2 := Lib.hid d2
              have HPB := Lib.hid hpb
              have hps40 : ps.length ≤ 40 := by omega
              clear hpb hlf d2 d3
              go_quiet (fail)
              go_wp2
              clear a0 a1 a2 a3 a4 a5 a6 j0 j1 j2 j3 l0 l1 l2 l3
              obtain ⟨bf, hbf⟩ : ∃ u, booksFault (bks ps) hs = u := ⟨_, rfl⟩
              rw [hbf] at hr
              have HR := Lib.hid hr
              have HBF : Hid (booksFault ((bks ps).drop 0) (hs.drop 0) = bf) := hbf
              have HBK := Lib.hid hbf
              clear hr hbf
              go_loopw [84] (fun i wr => ∃ k : Nat, k ≤ ps.length ∧ i = .int .i64 k ∧ Hid (booksFault ((bks ps).drop k) (hs.drop k) = bf) ∧ Below w2.heap.size w2 wr) (fun i _ => ps.length - (intOf i).toNat)
              case atStart => exact ⟨0, Nat.zero_le _, rfl, HBF, below_of_drewN _ _ _⟩
              case round =>
                obtain ⟨k, hk, rfl, HK, hbl⟩ := hrel
                have x3 := x2.below hbl
                have hb3 := below_chain hb2 hbl
                clear HBF
                by_cases hlt : k < ps.length
                case pos =>
                  have hlt' : k < hs.length := by have := HD2.out; omega
                  obtain ⟨gB, oB, rfl, jB, rB⟩ := (hB2.below hbl).get k hlt
                  obtain ⟨gK, oK, eH, r0, r1, r2, r3⟩ := (hH2.below hbl).head k hlt'
                  injection eH with eH
                  injection eH with e1 e2 _
                  subst e1; subst e2
                  have HK2 : Hid ((if fault ps[k].2.2 = 0 then (if prefMark ps[k].2.2 [] = hs[k].2.1 then booksFault ((bks ps).drop (k + 1)) (hs.drop (k + 1)) else 8) else fault ps[k].2.2) = bf) := by
                    show _ = _
                    have e1 := HK.out
                    rw [List.drop_eq_getElem_cons (by rw [bks_length]; exact hlt), List.drop_eq_getElem_cons hlt', bks_get ps k hlt, booksFault] at e1
                    exact e1
                  have hpk := HPB.out _ (List.getElem_mem hlt)
                  generalize ps[k].2.2 = bk at *
                  generalize ps[k].1 = P1 at *
                  generalize ps[k].2.1 = P2 at *
                  generalize hs[k].2.1 = rt at *
                  obtain ⟨f, hf⟩ : ∃ f, fault bk = f := ⟨_, rfl⟩
                  have hFa := fun (w : World) h => Lib.hid (refFault P1 P2 bk w hpk.1 hpk.2 h f hf)
                  have i8 : (0 : Int) ≤ (k : Int) := by omega
                  have i9 : (k : Int) < (ps.length : Int) := by omega
                  have i10 : (k : Int) < (hs.length : Int) := by omega
                  have hEH := hbl.size
                  by_cases f0 : f = 0
                  case neg =>
                    have e : bf = f := by
                      have := HK2.out
                      rw [hf, if_neg f0] at this
                      exact this.symm
                    have HF : Hid (f = r) := by
                      show _ = _
                      have := HR.out
                      rw [e, if_neg f0] at this
                      exact this
                    have cf : (f != 0) = true := bne_iff_ne.2 f0
                    clear HK HK2 HR HBK hf f0 e hpk r0 r1 r2 r3 x3 x2 hb2
                    go_wp2_with fail
                    refine (hFa _ rB).out.mono ?_
                    rintro x w4 ⟨rfl, hb4⟩
                    go_wp2
                    go_ret
                    exact ⟨by rw [← HF.out]; rfl, below_chain hb3 hb4⟩
                  case pos =>
                    subst f0
                    have hgd : Good bk := (fault_ok bk).1 hf
                    obtain ⟨pm, hpm⟩ : ∃ u, prefMark bk [] = u := ⟨_, rfl⟩
                    have hPx := fun (w : World) h => Lib.hid (refPrefix P1 P2 bk [] w (by have := hgd.len; omega) (fun y hy => by have := hgd.value y hy; have := Bin.name_len (hgd.name y hy); omega) (by simp) h pm hpm)
                    have HK3 : Hid ((if pm = rt then booksFault ((bks ps).drop (k + 1)) (hs.drop (k + 1)) else 8) = bf) := by
                      have := HK2.out
                      rw [hf, if_pos rfl, hpm] at this
                      exact this
                    clear HK HK2 hf hpm hgd hpk
                    go_wp2_with fail
                    refine (hFa _ rB).out.mono ?_
                    rintro x w4 ⟨rfl, hb4⟩
                    have x4 := x3.below hb4
                    have rB4 := rB.below hb4
                    have jr := kept r1 hb4
                    have hb4' := below_chain hbl hb4
                    clear hFa rB r0 r1 r2 r3 x3 jB hb4 hb3 hEH
                    go_wp2
                    refine wp_region_held_drew (S := fun W => W.cell? ⟨w.heap.size, 5, none⟩ = some (.slice (some ⟨gH, oH, none⟩) hs.length d) ∧ W.cell? ⟨gH, oH + k * 4 + 1, none⟩ = some (.int .u64 (rt : Int))) (by kernel_rfl) ⟨x4.get7.2.2.2.2.2.1, jr⟩ (fun hHeld => ?_)
                    refine wpAnyH_take (i := 0) (v := ?_) rfl (by kernel_rfl) (by kernel_rfl) (by kernel_rfl) (fun _ _ _ h => h) (Or.inl ⟨by rfl, ?_⟩) (by assumption) ?_
                    rotate_left
                    · intro wt hSt
                      try dsimp only at hSt
                      first | (go_simp; done) | (go_simp; with_reducible rfl)
                    simp only [Act.put, List.setIfInBounds_toArray, List.set_cons_zero, List.set_cons_succ, List.getElem_toArray, List.getElem_cons_zero]
                    refine wpAnyH_take (i := 2) (v := ?_) rfl (by kernel_rfl) (by kernel_rfl) (by kernel_rfl) (fun _ _ _ h => h) (Or.inl ⟨by rfl, ?_⟩) (by assumption) ?_
                    rotate_left
                    · intro wt hSt
                      try dsimp only at hSt
                      first | (go_simp; done) | (go_simp; with_reducible rfl)
                    simp only [Act.put, List.setIfInBounds_toArray, List.set_cons_zero, List.set_cons_succ, List.getElem_toArray, List.getElem_cons_zero, List.getElem_cons_succ]
                    refine wpAnyH_take (i := 3) (v := ?_) rfl (by kernel_rfl) (by kernel_rfl) (by kernel_rfl) (fun _ _ _ h => h) (Or.inl ⟨by rfl, ?_⟩) (by assumption) ?_
                    rotate_left
                    · intro wt hSt
                      try dsimp only at hSt
                      first | (go_simp; done) | (go_simp; with_reducible rfl)
                    simp only [Act.put, List.setIfInBounds_toArray, List.set_cons_zero, List.set_cons_succ, List.getElem_toArray, List.getElem_cons_zero, List.getElem_cons_succ]
                    refine wpAnyH_take (i := 4) (v := ?_) rfl (by kernel_rfl) (by kernel_rfl) (by kernel_rfl) (fun _ _ _ h => h) (Or.inl ⟨by rfl, ?_⟩) (by assumption) ?_
                    rotate_left
                    · intro wt hSt
                      try dsimp only at hSt
                      first | (go_simp; done) | (go_simp; with_reducible rfl)
                    simp only [Act.put, List.setIfInBounds_toArray, List.set_cons_zero, List.set_cons_succ, List.getElem_toArray, List.getElem_cons_zero, List.getElem_cons_succ]
                    refine wpAnyH_take (i := 5) (v := ?_) rfl (by kernel_rfl) (by kernel_rfl) (by kernel_rfl) (fun _ _ _ h => h) (Or.inl ⟨by rfl, ?_⟩) (by assumption) ?_
                    rotate_left
                    · intro wt hSt
                      try dsimp only at hSt
                      first | (go_simp; done) | (go_simp; with_reducible rfl)
                    simp only [Act.put, List.setIfInBounds_toArray, List.set_cons_zero, List.set_cons_succ, List.getElem_toArray, List.getElem_cons_zero, List.getElem_cons_succ]
                    refine wpAnyH_take (i := 6) (v := ?_) rfl (by kernel_rfl) (by kernel_rfl) (by kernel_rfl) (fun _ _ _ h => h) (Or.inl ⟨by rfl, ?_⟩) (by assumption) ?_
                    rotate_left
                    · intro wt hSt
                      try dsimp only at hSt
                      first | (go_simp; done) | (go_simp; with_reducible rfl)
                    simp only [Act.put, List.setIfInBounds_toArray, List.set_cons_zero, List.set_cons_succ, List.getElem_toArray, List.getElem_cons_zero, List.getElem_cons_succ]
                    refine wpAnyH_take (i := 7) (v := ?_) rfl (by kernel_rfl) (by kernel_rfl) (by kernel_rfl) (fun _ _ _ h => h) (Or.inl ⟨by rfl, ?_⟩) (by assumption) ?_
                    rotate_left
                    · intro wt hSt
                      try dsimp only at hSt
                      first | (go_simp; done) | (go_simp; with_reducible rfl)
                    simp only [Act.put, List.setIfInBounds_toArray, List.set_cons_zero, List.set_cons_succ, List.getElem_toArray, List.getElem_cons_zero, List.getElem_cons_succ]
                    refine wpAnyH_ready (rs := [1]) (by kernel_rfl) (by simp) ?_
                    refine AllReadyH.cons rfl (fun K hK => ?_) AllReadyH.nil
                    go_simp
                    go_at_call 30
                    refine (hPx _ (rB4.drewN 1)).out.mono ?_
                    rintro x w6 ⟨rfl, hb6'⟩
                    have hb6 := below_chain (bdrew (Below.refl w4.heap.size w4)) hb6'
                    go_wp2_with fail
                    refine hK.out _ _ ⟨(x4.below hb6).get7.2.2.2.2.2.1, kept jr hb6⟩ (fun hHeld => ?_)
                    clear hK K
                    refine wpAnyH_take (i := 8) (v := ?_) rfl (by kernel_rfl) (by kernel_rfl) (by kernel_rfl) (fun _ _ _ h => h) (Or.inl ⟨by rfl, ?_⟩) (by assumption) ?_
                    rotate_left
                    · intro wt hSt
                      try dsimp only at hSt
                      first | (go_simp; done) | (go_simp; with_reducible rfl)
                    simp only [Act.put, List.setIfInBounds_toArray, List.set_cons_zero, List.set_cons_succ, List.getElem_toArray, List.getElem_cons_zero, List.getElem_cons_succ]
                    refine wpAnyH_done (by kernel_rfl) ?_ _
                    by_cases hpr : pm = rt
                    case pos =>
                      have HK4 : Hid (booksFault ((bks ps).drop (k + 1)) (hs.drop (k + 1)) = bf) := by have := HK3.out; rw [if_pos hpr] at this; exact this
                      subst hpr
                      clear HK3
                      go_wp2
                      go_roundw
                      case rel => exact ⟨k + 1, by omega, by go_num, HK4, below_chain hb4' hb6⟩
                      case measure => simp [intOf]; omega
                    case neg =>
                      have e : bf = 8 := by have := HK3.out; rw [if_neg hpr] at this; exact this.symm
                      have HF : Hid ((8 : Int) = r) := by
                        show _ = _
                        have := HR.out
                        rw [e, if_neg (by decide)] at this
                        exact this
                      have cp : ((pm : Int) != (rt : Int)) = true := bne_iff_ne.2 (fun h => hpr (by omega))
                      clear HK3 hpr e
                      go_wp2
                      go_ret
                      exact ⟨by rw [← HF.out]; rfl, below_chain hb2 (below_chain hb4' hb6)⟩
                case neg =>
                  have e0 : bf = 0 := by
                    have := HK.out
                    rw [List.drop_eq_nil_of_le (by rw [bks_length]; omega)] at this
                    rw [← this]
                    rfl
                  have hr' := HR.out
                  rw [e0, if_pos rfl] at hr'
                  have hpm : ps.length = n + 1 := by have := HD2.out; have := HYtjcockcilkiggaaGreat.out; omega
                  obtain ⟨bk, hbk⟩ : ∃ u, (ps[n]'(by omega)).2.2 = u := ⟨_, rfl⟩
                  have hgd : Good bk := by
                    have := (booksFault_ok _ _).1 (by rw [HBK.out]; exact e0) n (by rw [bks_length]; omega) (by omega)
                    rw [bks_get ps n (by omega), hbk] at this
                    exact this.1
                  have hlb : lastBk ⟨most, l, ba, ev, nw, hs, bks ps⟩ = bk := by
                    rw [lastBk_at (m := n) (by show (bks ps).length = _; rw [bks_length]; exact hpm)]
                    show (bks ps)[n]'_ = bk
                    rw [bks_get ps n (by omega), hbk]
                  obtain ⟨nn, hnn⟩ : ∃ u, (Bin.srt (namesOf bk l [])).length = u := ⟨_, rfl⟩
                  have HF : Hid ((if 24 < nn then (7 : Int) else 0) = r) := by
                    show _ = _
                    rw [← hr', namesN, hlb, hnn]
                  have hNm := fun (w : World) h1 h2 => Lib.hid (refNamesOf most ba ev nw l hs ps A (some ⟨gH, oH, none⟩) B c d e [] w n hpm (by omega) (by have := hqg.len; have := hqg.m30; omega) bk (fun _ => hbk) (by have := hgd.len; omega) (fun y hy => by have := Bin.name_len (hgd.name y hy); unfold maxLen; omega) (fun y hy => by have := ((askFault_ok _ _).1 (hqg.each y hy)).1; have := Bin.name_len this; unfold maxLen; omega) (by simp) h1 h2 nn hnn)
                  have hA3 := hA2.below hbl
                  have hB3 := hB2.below hbl
                  obtain ⟨a0, a1, a2, a3, a4, a5, a6⟩ := x3.get7
                  clear HK HR HBK e0 hr' hpm hbk hgd hlb hnn x2 hA2 hB2 hH2 hb2 hbl
                  by_cases h24 : 24 < nn
                  case pos =>
                    have HF2 : Hid ((7 : Int) = r) := by have := HF.out; rw [if_pos h24] at this; exact this
                    have c24 : decide ((24 : Int) < (nn : Int)) = true := decide_eq_true (by omega)
                    clear HF
                    go_wp2_with fail
                    refine (hNm _ hA3 hB3).out.mono ?_
                    rintro x w4 ⟨rfl, hb4⟩
                    go_wp2
                    go_ret
                    exact ⟨by rw [← HF2.out]; rfl, below_chain hb3 hb4⟩
                  case neg =>
                    have HF2 : Hid ((0 : Int) = r) := by have := HF.out; rw [if_neg h24] at this; exact this
                    have c24 : decide ((24 : Int) < (nn : Int)) = false := decide_eq_false (by omega)
                    clear HF
                    go_wp2_with fail
                    refine (hNm _ hA3 hB3).out.mono ?_
                    rintro x w4 ⟨rfl, hb4⟩
                    go_wp2
                    go_ret
                    exact ⟨by rw [← HF2.out]; rfl, below_chain hb3 hb4⟩

end Go.Proofs.YtjcockcilkiggaaGreat
