/- Package clerk: Check returns the first error of a clerk. It writes nothing that was there. -/
import Derived.Test.YtjcockcilkiggaaGreatJ28
import Derived.Deep.RegionHeld3
namespace Go.Proofs.YtjcockcilkiggaaGreat
set_option maxRecDepth 100000
open Go.RowKit

theorem booksFault_cons (b : List Ent) (bs : List (List Ent)) (h : Hd) (hs : List Hd) : booksFault (b :: bs) (h :: hs) = if bookErr b h.2.1 = 0 then booksFault bs hs else bookErr b h.2.1 := by
  rw [booksFault, bookErr]
  by_cases h0 : fault b = 0
  · rw [if_pos h0, if_pos h0]
    by_cases h1 : prefMark b [] = h.2.1
    · rw [if_pos h1, if_pos h1, if_pos rfl]
    · rw [if_neg h1, if_neg h1, if_neg (by decide)]
  · rw [if_neg h0, if_neg h0, if_neg h0]
theorem booksFault_step {bs : List (List Ent)} {hs : List Hd} {k : Nat} (h1 : k < bs.length) (h2 : k < hs.length) : booksFault (bs.drop k) (hs.drop k) = if bookErr bs[k] hs[k].2.1 = 0 then booksFault (bs.drop (k + 1)) (hs.drop (k + 1)) else bookErr bs[k] hs[k].2.1 := by
  rw [List.drop_eq_getElem_cons h1, List.drop_eq_getElem_cons h2, booksFault_cons]

set_option maxHeartbeats 8000000 in
theorem clerkCheck (most ba ev nw : Int) (l : List Ak) (hs : List Hd) (ps : List Bp) (A H B : Option Addr) (c d e : Nat) (w : World) (hl : l.length ≤ maxLen) (hlf : ∀ x ∈ l, AkFits x) (hh : hs.length ≤ maxLen) (_hp : ps.length ≤ maxLen) (hpb : ∀ p ∈ ps, p.2.2.length ≤ maxLen ∧ ∀ x ∈ p.2.2, x.1.length ≤ maxLen ∧ x.2.length ≤ maxLen)
    (hA : Row w A (qcells l)) (hH : Row w H (hcells hs)) (hB : Books w B ps) (r : Int) (hr : ckfault ⟨most, l, ba, ev, nw, hs, bks ps⟩ = r) :
    Calls Tryz.prog 11 #[.agg #[.int .i64 most, .slice A l.length c, .int .i64 ba, .int .i64 ev, .int .i64 nw, .slice H hs.length d, .slice B ps.length e]] w fun x w' => x = .returned (.int .i64 r) ∧ Below w.heap.size w w' := by
  obtain ⟨qf, hqf⟩ : ∃ u, qfault most l = u := ⟨_, rfl⟩
  obtain ⟨⟨cf, cp⟩, hcf⟩ : ∃ u, cfault hs = u := ⟨_, rfl⟩
  obtain ⟨⟨wv, wr'⟩, hwa⟩ : ∃ u, waitAns 0 ba ev = u := ⟨_, rfl⟩
  have hQ := fun (w : World) hA => Lib.hid (queueCheck most A c l w hl hlf hA qf hqf)
  have hWt := fun (w : World) => Lib.hid (queueWait 0 ba ev w wv wr' hwa)
  have hC := fun (w : World) hH => Lib.hid (chainCheck H d hs w hh hH cf cp hcf)
  have x0 := Bx.new w _ rfl _ [.int .i64 most, .slice A l.length c, .int .i64 ba, .int .i64 ev, .int .i64 nw, .slice H hs.length d, .slice B ps.length e] 28 rfl
  have hb0 := (Below.refl w.heap.size w).alloc (Nat.le_refl _) (.cells #[.int .i64 most, .slice A l.length c, .int .i64 ba, .int .i64 ev, .int .i64 nw, .slice H hs.length d, .slice B ps.length e] 28)
  have hA0 := hA.alloc (.cells #[.int .i64 most, .slice A l.length c, .int .i64 ba, .int .i64 ev, .int .i64 nw, .slice H hs.length d, .slice B ps.length e] 28)
  have hH0 := hH.alloc (.cells #[.int .i64 most, .slice A l.length c, .int .i64 ba, .int .i64 ev, .int .i64 nw, .slice H hs.length d, .slice B ps.length e] 28)
  have hB0 := hB.alloc (.cells #[.int .i64 most, .slice A l.length c, .int .i64 ba, .int .i64 ev, .int .i64 nw, .slice H hs.length d, .slice B ps.length e] 28)
  obtain ⟨a0, a1, a2, a3, a4, a5, a6⟩ := x0.get7
  unfold ckfault at hr
  dsimp only at hr
  rw [hqf, hcf] at hr
  dsimp only at hr
  by_cases k0 : qf = 0
  case neg =>
    rw [if_neg k0] at hr
    subst hr
    have c0 : (qf != 0) = true := bne_iff_ne.2 k0
    clear hqf hcf hlf hpb hA hH hB hH0 hB0 k0 hC x0 hWt hwa
    go_enter Tryz.func11, Tryz.ntmps11
    go_wp2_with fail
    refine (hQ _ hA0).out.mono ?_
    rintro x w1 ⟨rfl, hbn⟩
    have hb1 := below_chain hb0 hbn
    clear a0 a1 a2 a3 a4 a5 a6
    go_wp2
    go_ret
    exact ⟨rfl, hb1⟩
  case pos =>
    rw [if_pos k0] at hr
    subst k0
    have hqg : QGood most l := (qfault_ok _ _).1 hqf
    by_cases kw : WaitOk 0 ba ev
    case neg =>
      have hk : rangeBad ⟨most, l, ba, ev, nw, hs, bks ps⟩ := by
        unfold WaitOk at kw
        unfold rangeBad
        dsimp only
        omega
      rw [if_pos hk] at hr
      subst hr
      obtain ⟨rfl, rfl⟩ : wr' = 4 ∧ wv = 0 := by
        rcases waitAns_err hwa with ⟨_, h, _⟩ | h
        · exact absurd h kw
        · exact h
      clear hqf hcf hlf hpb hA hH hB hH0 hB0 hC hqg kw hk hwa
      go_enter Tryz.func11, Tryz.ntmps11
      go_wp2_with fail
      refine (hQ _ hA0).out.mono ?_
      rintro x w1 ⟨rfl, hbn⟩
      have hb1 := below_chain hb0 hbn
      have x1 := x0.below hbn
      clear a0 a1 a2 a3 a4 a5 a6 x0
      obtain ⟨a0, a1, a2, a3, a4, a5, a6⟩ := x1.get7
      go_wp2_with fail
      refine (hWt _).out.mono ?_
      rintro x w1' ⟨rfl, hw⟩
      have hw1 := hw.symm
      subst hw1
      clear hw hWt
      go_wp2
      go_ret
      exact ⟨rfl, hb1⟩
    case pos =>
      obtain rfl : wr' = 0 := by
        rcases waitAns_err hwa with ⟨h, _⟩ | ⟨h, h2⟩
        · exact h
        · exfalso
          unfold waitAns at hwa
          rw [if_pos kw, Prod.mk.injEq] at hwa
          rw [h] at hwa
          exact absurd hwa.2 (by decide)
      by_cases k1 : rangeBad ⟨most, l, ba, ev, nw, hs, bks ps⟩
      case pos =>
        rw [if_pos k1] at hr
        subst hr
        unfold rangeBad at k1
        unfold WaitOk at kw
        dsimp only at k1
        clear hqf hcf hlf hpb hA hH hB hH0 hB0 hC hqg hwa
        cases c5 : decide (nw < 0) with
        | true =>
          clear k1 kw
          go_enter Tryz.func11, Tryz.ntmps11
          go_wp2_with fail
          refine (hQ _ hA0).out.mono ?_
          rintro x w1 ⟨rfl, hbn⟩
          have hb1 := below_chain hb0 hbn
          have x1 := x0.below hbn
          clear a0 a1 a2 a3 a4 a5 a6 x0
          obtain ⟨a0, a1, a2, a3, a4, a5, a6⟩ := x1.get7
          go_wp2_with fail
          refine (hWt _).out.mono ?_
          rintro x w1' ⟨rfl, hw⟩
          have hw1 := hw.symm
          subst hw1
          clear hw hWt
          go_wp2
          go_ret
          exact ⟨rfl, hb1⟩
        | false =>
        cases c6 : decide (1000000000 < nw) with
        | true =>
          clear k1 kw
          go_enter Tryz.func11, Tryz.ntmps11
          go_wp2_with fail
          refine (hQ _ hA0).out.mono ?_
          rintro x w1 ⟨rfl, hbn⟩
          have hb1 := below_chain hb0 hbn
          have x1 := x0.below hbn
          clear a0 a1 a2 a3 a4 a5 a6 x0
          obtain ⟨a0, a1, a2, a3, a4, a5, a6⟩ := x1.get7
          go_wp2_with fail
          refine (hWt _).out.mono ?_
          rintro x w1' ⟨rfl, hw⟩
          have hw1 := hw.symm
          subst hw1
          clear hw hWt
          go_wp2
          go_ret
          exact ⟨rfl, hb1⟩
        | false =>
        exact absurd k1 (by simp only [decide_eq_false_iff_not] at c5 c6; omega)
      case neg =>
        rw [if_neg k1] at hr
        unfold rangeBad at k1
        dsimp only at k1
        have c5 : decide (nw < 0) = false := decide_eq_false (by omega)
        have c6 : decide (1000000000 < nw) = false := decide_eq_false (by omega)
        clear k1 kw hwa
        by_cases k2 : cf = 0
        case neg =>
          rw [if_neg k2] at hr
          subst hr
          have cc : (cf != 0) = true := bne_iff_ne.2 k2
          clear hqf hcf hlf hpb hA hH hB hB0 k2 hqg
          go_enter Tryz.func11, Tryz.ntmps11
          go_wp2_with fail
          refine (hQ _ hA0).out.mono ?_
          rintro x w1 ⟨rfl, hbn⟩
          have hb1 := below_chain hb0 hbn
          have x1 := x0.below hbn
          have hH1 := hH0.below hbn
          clear a0 a1 a2 a3 a4 a5 a6 x0
          obtain ⟨a0, a1, a2, a3, a4, a5, a6⟩ := x1.get7
          go_wp2_with fail
          refine (hWt _).out.mono ?_
          rintro x w1' ⟨rfl, hw⟩
          have hw1 := hw.symm
          subst hw1
          clear hw hWt
          go_wp2_with fail
          refine (hC _ hH1).out.mono ?_
          rintro x w2 ⟨rfl, hbn2⟩
          have hb2 := below_chain hb1 hbn2
          have x2 := x1.below hbn2
          clear a0 a1 a2 a3 a4 a5 a6 x1 hC hb1
          go_wp2
          go_ret
          exact ⟨rfl, hb2⟩
        case pos =>
          rw [if_pos k2] at hr
          subst k2
          have hcg : CGood hs := (cfault_ok hs).1 (by rw [hcf])
          obtain ⟨n, hn⟩ : ∃ n, hs.length = n + 1 := ⟨hs.length - 1, by have := hcg.pos; omega⟩
          have hl40 := hcg.len
          have hpos := hcg.pos
          obtain ⟨⟨epL, rtL, pvL, tmL⟩, hlast⟩ : ∃ u, lastH hs = u := ⟨_, rfl⟩
          have hLs := fun (w : World) h => Lib.hid (clerkLastH H d hs w hpos hh h epL rtL pvL tmL hlast)
          have hfirst := firstH_at hpos
          have i0 : (0 : Int) < (hs.length : Int) := by omega
          have hn' : n < hs.length := by omega
          have HYtjcockcilkiggaaGreat := Lib.hid hn
          clear hcf hA hH hB hqf hn
          go_enter Tryz.func11, Tryz.ntmps11
          go_wp2_with fail
          refine (hQ _ hA0).out.mono ?_
          rintro x w1 ⟨rfl, hbn⟩
          have hb1 := below_chain hb0 hbn
          have x1 := x0.below hbn
          have hH1 := hH0.below hbn
          have hB1 := hB0.below hbn
          have hA1 := hA0.below hbn
          clear a0 a1 a2 a3 a4 a5 a6 x0
          obtain ⟨a0, a1, a2, a3, a4, a5, a6⟩ := x1.get7
          go_wp2_with fail
          refine (hWt _).out.mono ?_
          rintro x w1' ⟨rfl, hw⟩
          have hw1 := hw.symm
          subst hw1
          clear hw hWt
          go_wp2_with fail
          refine (hC _ hH1).out.mono ?_
          rintro x w2 ⟨rfl, hbn2⟩
          have hb2 := below_chain hb1 hbn2
          have x2 := x1.below hbn2
          clear a0 a1 a2 a3 a4 a5 a6 x1 hC hb1
          have hH2 := hH1.below hbn2
          have hB2 := hB1.below hbn2
          have hA2 := hA1.below hbn2
          clear hH1 hB1 hA1 hbn hbn2 hQ hA0 hH0 hB0 hb0
          obtain ⟨a0, a1, a2, a3, a4, a5, a6⟩ := x2.get7
          obtain ⟨gH, oH, rfl, j0, j1, j2, j3⟩ := hH2.head 0 hpos
          rw [← hfirst, Nat.zero_mul, Nat.add_zero] at j0
          clear hfirst j1 j2 j3
          unfold formBad at hr
          dsimp only at hr
          rw [bks_length, hlast] at hr
          dsimp only at hr
          have hf3 : ∀ (w : World), (Instr.field 45 (.agg #[.int .i64 epL, .int .u64 (rtL : Int), .int .u64 (pvL : Int), .int .i64 tmL]) 3).run Tryz.prog w = .ok (.int .i64 tmL) w := fun _ => by kernel_rfl
          generalize (firstH hs).1 = ep0 at *
          go_wp2
          by_cases d1 : ep0 = 0
          case neg =>
            rw [if_pos (.inl d1)] at hr
            subst hr
            have cd : (ep0 != 0) = true := bne_iff_ne.2 d1
            clear d1 hpb hlf
            refine wp_region_held_drew (S := fun W => W.cell? ⟨w.heap.size, 4, none⟩ = some (.int .i64 nw) ∧ W.cell? ⟨w.heap.size, 5, none⟩ = some (.slice (some ⟨gH, oH, none⟩) hs.length d) ∧ W.cell? ⟨w.heap.size, 6, none⟩ = some (.slice B ps.length e) ∧ W.cell? ⟨gH, oH, none⟩ = some (.int .i64 ep0)) (by kernel_rfl) ⟨a4, a5, a6, j0⟩ (fun hHeld => ?_)
            refine wpAnyH_take (i := 0) (v := ?_) rfl (by kernel_rfl) (by kernel_rfl) (by kernel_rfl) (fun _ _ _ h => h) (Or.inl ⟨by rfl, ?_⟩) (by assumption) ?_
            rotate_left
            · intro wt hSt
              try dsimp only at hSt
              first | (go_simp; done) | (go_simp; with_reducible rfl)
            simp only [Act.put, List.setIfInBounds_toArray, List.set_cons_zero, List.set_cons_succ, List.getElem_toArray, List.getElem_cons_zero]
            refine wpAnyH_take (i := 1) (v := ?_) rfl (by kernel_rfl) (by kernel_rfl) (by kernel_rfl) (fun _ _ _ h => h) (Or.inl ⟨by rfl, ?_⟩) (by assumption) ?_
            rotate_left
            · intro wt hSt
              try dsimp only at hSt
              first | (go_simp; done) | (go_simp; with_reducible rfl)
            simp only [Act.put, List.setIfInBounds_toArray, List.set_cons_zero, List.set_cons_succ, List.getElem_toArray, List.getElem_cons_zero, List.getElem_cons_succ]
            refine wpAnyH_take (i := 2) (v := ?_) rfl (by kernel_rfl) (by kernel_rfl) (by kernel_rfl) (fun _ _ _ h => h) (Or.inl ⟨by rfl, ?_⟩) (by assumption) ?_
            rotate_left
            · intro wt hSt
              try dsimp only at hSt
              first | (go_simp; done) | (go_simp; with_reducible rfl)
            simp only [Act.put, List.setIfInBounds_toArray, List.set_cons_zero, List.set_cons_succ, List.getElem_toArray, List.getElem_cons_zero, List.getElem_cons_succ]
            refine wpAnyH_take (i := 3) (v := ?_) rfl (by kernel_rfl) (by kernel_rfl) (by kernel_rfl) (fun _ _ _ h => h) (Or.inl ⟨by rfl, ?_⟩) (by assumption) ?_
            rotate_left
            · intro wt hSt
              try dsimp only at hSt
              first | (go_simp; done) | (go_simp; with_reducible rfl)
            simp only [Act.put, List.setIfInBounds_toArray, List.set_cons_zero, List.set_cons_succ, List.getElem_toArray, List.getElem_cons_zero, List.getElem_cons_succ]
            refine wpAnyH_take (i := 4) (v := ?_) rfl (by kernel_rfl) (by kernel_rfl) (by kernel_rfl) (fun _ _ _ h => h) (Or.inl ⟨by rfl, ?_⟩) (by assumption) ?_
            rotate_left
            · intro wt hSt
              try dsimp only at hSt
              first | (go_simp; done) | (go_simp; with_reducible rfl)
            simp only [Act.put, List.setIfInBounds_toArray, List.set_cons_zero, List.set_cons_succ, List.getElem_toArray, List.getElem_cons_zero, List.getElem_cons_succ]
            refine wpAnyH_take (i := 5) (v := ?_) rfl (by kernel_rfl) (by kernel_rfl) (by kernel_rfl) (fun _ _ _ h => h) (Or.inl ⟨by rfl, ?_⟩) (by assumption) ?_
            rotate_left
            · intro wt hSt
              try dsimp only at hSt
              first | (go_simp; done) | (go_simp; with_reducible rfl)
            simp only [Act.put, List.setIfInBounds_toArray, List.set_cons_zero, List.set_cons_succ, List.getElem_toArray, List.getElem_cons_zero, List.getElem_cons_succ]
            refine wpAnyH_take (i := 6) (v := ?_) rfl (by kernel_rfl) (by kernel_rfl) (by kernel_rfl) (fun _ _ _ h => h) (Or.inl ⟨by rfl, ?_⟩) (by assumption) ?_
            rotate_left
            · intro wt hSt
              try dsimp only at hSt
              first | (go_simp; done) | (go_simp; with_reducible rfl)
            simp only [Act.put, List.setIfInBounds_toArray, List.set_cons_zero, List.set_cons_succ, List.getElem_toArray, List.getElem_cons_zero, List.getElem_cons_succ]
            refine wpAnyH_take (i := 7) (v := undef) rfl (by kernel_rfl) (by kernel_rfl) (by kernel_rfl) (fun _ _ _ h => h) (Or.inr ⟨by rfl, rfl⟩) (by assumption) ?_
            simp only [Act.put, List.setIfInBounds_toArray, List.set_cons_zero, List.set_cons_succ, List.getElem_toArray, List.getElem_cons_zero, List.getElem_cons_succ]
            refine wpAnyH_take (i := 8) (v := undef) rfl (by kernel_rfl) (by kernel_rfl) (by kernel_rfl) (fun _ _ _ h => h) (Or.inr ⟨by rfl, rfl⟩) (by assumption) ?_
            simp only [Act.put, List.setIfInBounds_toArray, List.set_cons_zero, List.set_cons_succ, List.getElem_toArray, List.getElem_cons_zero, List.getElem_cons_succ]
            refine wpAnyH_take (i := 9) (v := undef) rfl (by kernel_rfl) (by kernel_rfl) (by kernel_rfl) (fun _ _ _ h => h) (Or.inr ⟨by rfl, rfl⟩) (by assumption) ?_
            simp only [Act.put, List.setIfInBounds_toArray, List.set_cons_zero, List.set_cons_succ, List.getElem_toArray, List.getElem_cons_zero, List.getElem_cons_succ]
            refine wpAnyH_take (i := 10) (v := undef) rfl (by kernel_rfl) (by kernel_rfl) (by kernel_rfl) (fun _ _ _ h => h) (Or.inr ⟨by rfl, rfl⟩) (by assumption) ?_
            simp only [Act.put, List.setIfInBounds_toArray, List.set_cons_zero, List.set_cons_succ, List.getElem_toArray, List.getElem_cons_zero, List.getElem_cons_succ]
            refine wpAnyH_take (i := 11) (v := undef) rfl (by kernel_rfl) (by kernel_rfl) (by kernel_rfl) (fun _ _ _ h => h) (Or.inr ⟨by rfl, rfl⟩) (by assumption) ?_
            simp only [Act.put, List.setIfInBounds_toArray, List.set_cons_zero, List.set_cons_succ, List.getElem_toArray, List.getElem_cons_zero, List.getElem_cons_succ]
            refine wpAnyH_take (i := 12) (v := undef) rfl (by kernel_rfl) (by kernel_rfl) (by kernel_rfl) (fun _ _ _ h => h) (Or.inr ⟨by rfl, rfl⟩) (by assumption) ?_
            simp only [Act.put, List.setIfInBounds_toArray, List.set_cons_zero, List.set_cons_succ, List.getElem_toArray, List.getElem_cons_zero, List.getElem_cons_succ]
            refine wpAnyH_take (i := 13) (v := undef) rfl (by kernel_rfl) (by kernel_rfl) (by kernel_rfl) (fun _ _ _ h => h) (Or.inr ⟨by rfl, rfl⟩) (by assumption) ?_
            simp only [Act.put, List.setIfInBounds_toArray, List.set_cons_zero, List.set_cons_succ, List.getElem_toArray, List.getElem_cons_zero, List.getElem_cons_succ]
            refine wpAnyH_take (i := 14) (v := ?_) rfl (by kernel_rfl) (by kernel_rfl) (by kernel_rfl) (fun _ _ _ h => h) (Or.inl ⟨by rfl, ?_⟩) (by assumption) ?_
            rotate_left
            · intro wt hSt
              try dsimp only at hSt
              first | (go_simp; done) | (go_simp; with_reducible rfl)
            simp only [Act.put, List.setIfInBounds_toArray, List.set_cons_zero, List.set_cons_succ, List.getElem_toArray, List.getElem_cons_zero, List.getElem_cons_succ]
            refine wpAnyH_take (i := 15) (v := ?_) rfl (by kernel_rfl) (by kernel_rfl) (by kernel_rfl) (fun _ _ _ h => h) (Or.inl ⟨by rfl, ?_⟩) (by assumption) ?_
            rotate_left
            · intro wt hSt
              try dsimp only at hSt
              first | (go_simp; done) | (go_simp; with_reducible rfl)
            simp only [Act.put, List.setIfInBounds_toArray, List.set_cons_zero, List.set_cons_succ, List.getElem_toArray, List.getElem_cons_zero, List.getElem_cons_succ]
            refine wpAnyH_take (i := 16) (v := undef) rfl (by kernel_rfl) (by kernel_rfl) (by kernel_rfl) (fun _ _ _ h => h) (Or.inr ⟨by rfl, rfl⟩) (by assumption) ?_
            simp only [Act.put, List.setIfInBounds_toArray, List.set_cons_zero, List.set_cons_succ, List.getElem_toArray, List.getElem_cons_zero, List.getElem_cons_succ]
            refine wpAnyH_take (i := 17) (v := undef) rfl (by kernel_rfl) (by kernel_rfl) (by kernel_rfl) (fun _ _ _ h => h) (Or.inr ⟨by rfl, rfl⟩) (by assumption) ?_
            simp only [Act.put, List.setIfInBounds_toArray, List.set_cons_zero, List.set_cons_succ, List.getElem_toArray, List.getElem_cons_zero, List.getElem_cons_succ]
            refine wpAnyH_take (i := 18) (v := undef) rfl (by kernel_rfl) (by kernel_rfl) (by kernel_rfl) (fun _ _ _ h => h) (Or.inr ⟨by rfl, rfl⟩) (by assumption) ?_
            simp only [Act.put, List.setIfInBounds_toArray, List.set_cons_zero, List.set_cons_succ, List.getElem_toArray, List.getElem_cons_zero, List.getElem_cons_succ]
            refine wpAnyH_take (i := 19) (v := undef) rfl (by kernel_rfl) (by kernel_rfl) (by kernel_rfl) (fun _ _ _ h => h) (Or.inr ⟨by rfl, rfl⟩) (by assumption) ?_
            simp only [Act.put, List.setIfInBounds_toArray, List.set_cons_zero, List.set_cons_succ, List.getElem_toArray, List.getElem_cons_zero, List.getElem_cons_succ]
            refine wpAnyH_take (i := 20) (v := undef) rfl (by kernel_rfl) (by kernel_rfl) (by kernel_rfl) (fun _ _ _ h => h) (Or.inr ⟨by rfl, rfl⟩) (by assumption) ?_
            simp only [Act.put, List.setIfInBounds_toArray, List.set_cons_zero, List.set_cons_succ, List.getElem_toArray, List.getElem_cons_zero, List.getElem_cons_succ]
            refine wpAnyH_take (i := 21) (v := undef) rfl (by kernel_rfl) (by kernel_rfl) (by kernel_rfl) (fun _ _ _ h => h) (Or.inr ⟨by rfl, rfl⟩) (by assumption) ?_
            simp only [Act.put, List.setIfInBounds_toArray, List.set_cons_zero, List.set_cons_succ, List.getElem_toArray, List.getElem_cons_zero, List.getElem_cons_succ]
            refine wpAnyH_take (i := 22) (v := undef) rfl (by kernel_rfl) (by kernel_rfl) (by kernel_rfl) (fun _ _ _ h => h) (Or.inr ⟨by rfl, rfl⟩) (by assumption) ?_
            simp only [Act.put, List.setIfInBounds_toArray, List.set_cons_zero, List.set_cons_succ, List.getElem_toArray, List.getElem_cons_zero, List.getElem_cons_succ]
            refine wpAnyH_take (i := 23) (v := ?_) rfl (by kernel_rfl) (by kernel_rfl) (by kernel_rfl) (fun _ _ _ h => h) (Or.inl ⟨by rfl, ?_⟩) (by assumption) ?_
            rotate_left
            · intro wt hSt
              try dsimp only at hSt
              first | (go_simp; done) | (go_simp; with_reducible rfl)
            simp only [Act.put, List.setIfInBounds_toArray, List.set_cons_zero, List.set_cons_succ, List.getElem_toArray, List.getElem_cons_zero, List.getElem_cons_succ]
            refine wpAnyH_done (by kernel_rfl) ?_ _
            go_wp2
            go_ret
            exact ⟨rfl, below_chain hb2 (below_of_drewN _ _ _)⟩
          case pos =>
            subst d1
            by_cases d2 : ps.length = hs.length
            case neg =>
              rw [if_pos (.inr (.inl d2))] at hr
              subst hr
              have cd : ((ps.length : Int) != (hs.length : Int)) = true := by simp; omega
              clear hpb hlf d2
              refine wp_region_held_drew (S := fun W => W.cell? ⟨w.heap.size, 4, none⟩ = some (.int .i64 nw) ∧ W.cell? ⟨w.heap.size, 5, none⟩ = some (.slice (some ⟨gH, oH, none⟩) hs.length d) ∧ W.cell? ⟨w.heap.size, 6, none⟩ = some (.slice B ps.length e) ∧ W.cell? ⟨gH, oH, none⟩ = some (.int .i64 0)) (by kernel_rfl) ⟨a4, a5, a6, j0⟩ (fun hHeld => ?_)
              refine wpAnyH_take (i := 0) (v := ?_) rfl (by kernel_rfl) (by kernel_rfl) (by kernel_rfl) (fun _ _ _ h => h) (Or.inl ⟨by rfl, ?_⟩) (by assumption) ?_
              rotate_left
              · intro wt hSt
                try dsimp only at hSt
                first | (go_simp; done) | (go_simp; with_reducible rfl)
              simp only [Act.put, List.setIfInBounds_toArray, List.set_cons_zero, List.set_cons_succ, List.getElem_toArray, List.getElem_cons_zero]
              refine wpAnyH_take (i := 1) (v := ?_) rfl (by kernel_rfl) (by kernel_rfl) (by kernel_rfl) (fun _ _ _ h => h) (Or.inl ⟨by rfl, ?_⟩) (by assumption) ?_
              rotate_left
              · intro wt hSt
                try dsimp only at hSt
                first | (go_simp; done) | (go_simp; with_reducible rfl)
              simp only [Act.put, List.setIfInBounds_toArray, List.set_cons_zero, List.set_cons_succ, List.getElem_toArray, List.getElem_cons_zero, List.getElem_cons_succ]
              refine wpAnyH_take (i := 2) (v := ?_) rfl (by kernel_rfl) (by kernel_rfl) (by kernel_rfl) (fun _ _ _ h => h) (Or.inl ⟨by rfl, ?_⟩) (by assumption) ?_
              rotate_left
              · intro wt hSt
                try dsimp only at hSt
                first | (go_simp; done) | (go_simp; with_reducible rfl)
              simp only [Act.put, List.setIfInBounds_toArray, List.set_cons_zero, List.set_cons_succ, List.getElem_toArray, List.getElem_cons_zero, List.getElem_cons_succ]
              refine wpAnyH_take (i := 3) (v := ?_) rfl (by kernel_rfl) (by kernel_rfl) (by kernel_rfl) (fun _ _ _ h => h) (Or.inl ⟨by rfl, ?_⟩) (by assumption) ?_
              rotate_left
              · intro wt hSt
                try dsimp only at hSt
                first | (go_simp; done) | (go_simp; with_reducible rfl)
              simp only [Act.put, List.setIfInBounds_toArray, List.set_cons_zero, List.set_cons_succ, List.getElem_toArray, List.getElem_cons_zero, List.getElem_cons_succ]
              refine wpAnyH_take (i := 4) (v := ?_) rfl (by kernel_rfl) (by kernel_rfl) (by kernel_rfl) (fun _ _ _ h => h) (Or.inl ⟨by rfl, ?_⟩) (by assumption) ?_
              rotate_left
              · intro wt hSt
                try dsimp only at hSt
                first | (go_simp; done) | (go_simp; with_reducible rfl)
              simp only [Act.put, List.setIfInBounds_toArray, List.set_cons_zero, List.set_cons_succ, List.getElem_toArray, List.getElem_cons_zero, List.getElem_cons_succ]
              refine wpAnyH_take (i := 5) (v := ?_) rfl (by kernel_rfl) (by kernel_rfl) (by kernel_rfl) (fun _ _ _ h => h) (Or.inl ⟨by rfl, ?_⟩) (by assumption) ?_
              rotate_left
              · intro wt hSt
                try dsimp only at hSt
                first | (go_simp; done) | (go_simp; with_reducible rfl)
              simp only [Act.put, List.setIfInBounds_toArray, List.set_cons_zero, List.set_cons_succ, List.getElem_toArray, List.getElem_cons_zero, List.getElem_cons_succ]
              refine wpAnyH_take (i := 6) (v := ?_) rfl (by kernel_rfl) (by kernel_rfl) (by kernel_rfl) (fun _ _ _ h => h) (Or.inl ⟨by rfl, ?_⟩) (by assumption) ?_
              rotate_left
              · intro wt hSt
                try dsimp only at hSt
                first | (go_simp; done) | (go_simp; with_reducible rfl)
              simp only [Act.put, List.setIfInBounds_toArray, List.set_cons_zero, List.set_cons_succ, List.getElem_toArray, List.getElem_cons_zero, List.getElem_cons_succ]
              refine wpAnyH_take (i := 7) (v := ?_) rfl (by kernel_rfl) (by kernel_rfl) (by kernel_rfl) (fun _ _ _ h => h) (Or.inl ⟨by rfl, ?_⟩) (by assumption) ?_
              rotate_left
              · intro wt hSt
                try dsimp only at hSt
                first | (go_simp; done) | (go_simp; with_reducible rfl)
              simp only [Act.put, List.setIfInBounds_toArray, List.set_cons_zero, List.set_cons_succ, List.getElem_toArray, List.getElem_cons_zero, List.getElem_cons_succ]
              refine wpAnyH_take (i := 8) (v := ?_) rfl (by kernel_rfl) (by kernel_rfl) (by kernel_rfl) (fun _ _ _ h => h) (Or.inl ⟨by rfl, ?_⟩) (by assumption) ?_
              rotate_left
              · intro wt hSt
                try dsimp only at hSt
                first | (go_simp; done) | (go_simp; with_reducible rfl)
              simp only [Act.put, List.setIfInBounds_toArray, List.set_cons_zero, List.set_cons_succ, List.getElem_toArray, List.getElem_cons_zero, List.getElem_cons_succ]
              refine wpAnyH_take (i := 9) (v := ?_) rfl (by kernel_rfl) (by kernel_rfl) (by kernel_rfl) (fun _ _ _ h => h) (Or.inl ⟨by rfl, ?_⟩) (by assumption) ?_
              rotate_left
              · intro wt hSt
                try dsimp only at hSt
                first | (go_simp; done) | (go_simp; with_reducible rfl)
              simp only [Act.put, List.setIfInBounds_toArray, List.set_cons_zero, List.set_cons_succ, List.getElem_toArray, List.getElem_cons_zero, List.getElem_cons_succ]
              refine wpAnyH_take (i := 10) (v := ?_) rfl (by kernel_rfl) (by kernel_rfl) (by kernel_rfl) (fun _ _ _ h => h) (Or.inl ⟨by rfl, ?_⟩) (by assumption) ?_
              rotate_left
              · intro wt hSt
                try dsimp only at hSt
                first | (go_simp; done) | (go_simp; with_reducible rfl)
              simp only [Act.put, List.setIfInBounds_toArray, List.set_cons_zero, List.set_cons_succ, List.getElem_toArray, List.getElem_cons_zero, List.getElem_cons_succ]
              refine wpAnyH_take (i := 11) (v := ?_) rfl (by kernel_rfl) (by kernel_rfl) (by kernel_rfl) (fun _ _ _ h => h) (Or.inl ⟨by rfl, ?_⟩) (by assumption) ?_
              rotate_left
              · intro wt hSt
                try dsimp only at hSt
                first | (go_simp; done) | (go_simp; with_reducible rfl)
              simp only [Act.put, List.setIfInBounds_toArray, List.set_cons_zero, List.set_cons_succ, List.getElem_toArray, List.getElem_cons_zero, List.getElem_cons_succ]
              refine wpAnyH_take (i := 12) (v := ?_) rfl (by kernel_rfl) (by kernel_rfl) (by kernel_rfl) (fun _ _ _ h => h) (Or.inl ⟨by rfl, ?_⟩) (by assumption) ?_
              rotate_left
              · intro wt hSt
                try dsimp only at hSt
                first | (go_simp; done) | (go_simp; with_reducible rfl)
              simp only [Act.put, List.setIfInBounds_toArray, List.set_cons_zero, List.set_cons_succ, List.getElem_toArray, List.getElem_cons_zero, List.getElem_cons_succ]
              refine wpAnyH_take (i := 13) (v := ?_) rfl (by kernel_rfl) (by kernel_rfl) (by kernel_rfl) (fun _ _ _ h => h) (Or.inl ⟨by rfl, ?_⟩) (by assumption) ?_
              rotate_left
              · intro wt hSt
                try dsimp only at hSt
                first | (go_simp; done) | (go_simp; with_reducible rfl)
              simp only [Act.put, List.setIfInBounds_toArray, List.set_cons_zero, List.set_cons_succ, List.getElem_toArray, List.getElem_cons_zero, List.getElem_cons_succ]
              refine wpAnyH_take (i := 14) (v := ?_) rfl (by kernel_rfl) (by kernel_rfl) (by kernel_rfl) (fun _ _ _ h => h) (Or.inl ⟨by rfl, ?_⟩) (by assumption) ?_
              rotate_left
              · intro wt hSt
                try dsimp only at hSt
                first | (go_simp; done) | (go_simp; with_reducible rfl)
              simp only [Act.put, List.setIfInBounds_toArray, List.set_cons_zero, List.set_cons_succ, List.getElem_toArray, List.getElem_cons_zero, List.getElem_cons_succ]
              refine wpAnyH_take (i := 15) (v := ?_) rfl (by kernel_rfl) (by kernel_rfl) (by kernel_rfl) (fun _ _ _ h => h) (Or.inl ⟨by rfl, ?_⟩) (by assumption) ?_
              rotate_left
              · intro wt hSt
                try dsimp only at hSt
                first | (go_simp; done) | (go_simp; with_reducible rfl)
              simp only [Act.put, List.setIfInBounds_toArray, List.set_cons_zero, List.set_cons_succ, List.getElem_toArray, List.getElem_cons_zero, List.getElem_cons_succ]
              refine wpAnyH_take (i := 16) (v := undef) rfl (by kernel_rfl) (by kernel_rfl) (by kernel_rfl) (fun _ _ _ h => h) (Or.inr ⟨by rfl, rfl⟩) (by assumption) ?_
              simp only [Act.put, List.setIfInBounds_toArray, List.set_cons_zero, List.set_cons_succ, List.getElem_toArray, List.getElem_cons_zero, List.getElem_cons_succ]
              refine wpAnyH_take (i := 17) (v := undef) rfl (by kernel_rfl) (by kernel_rfl) (by kernel_rfl) (fun _ _ _ h => h) (Or.inr ⟨by rfl, rfl⟩) (by assumption) ?_
              simp only [Act.put, List.setIfInBounds_toArray, List.set_cons_zero, List.set_cons_succ, List.getElem_toArray, List.getElem_cons_zero, List.getElem_cons_succ]
              refine wpAnyH_take (i := 18) (v := undef) rfl (by kernel_rfl) (by kernel_rfl) (by kernel_rfl) (fun _ _ _ h => h) (Or.inr ⟨by rfl, rfl⟩) (by assumption) ?_
              simp only [Act.put, List.setIfInBounds_toArray, List.set_cons_zero, List.set_cons_succ, List.getElem_toArray, List.getElem_cons_zero, List.getElem_cons_succ]
              refine wpAnyH_take (i := 19) (v := undef) rfl (by kernel_rfl) (by kernel_rfl) (by kernel_rfl) (fun _ _ _ h => h) (Or.inr ⟨by rfl, rfl⟩) (by assumption) ?_
              simp only [Act.put, List.setIfInBounds_toArray, List.set_cons_zero, List.set_cons_succ, List.getElem_toArray, List.getElem_cons_zero, List.getElem_cons_succ]
              refine wpAnyH_take (i := 20) (v := undef) rfl (by kernel_rfl) (by kernel_rfl) (by kernel_rfl) (fun _ _ _ h => h) (Or.inr ⟨by rfl, rfl⟩) (by assumption) ?_
              simp only [Act.put, List.setIfInBounds_toArray, List.set_cons_zero, List.set_cons_succ, List.getElem_toArray, List.getElem_cons_zero, List.getElem_cons_succ]
              refine wpAnyH_take (i := 21) (v := undef) rfl (by kernel_rfl) (by kernel_rfl) (by kernel_rfl) (fun _ _ _ h => h) (Or.inr ⟨by rfl, rfl⟩) (by assumption) ?_
              simp only [Act.put, List.setIfInBounds_toArray, List.set_cons_zero, List.set_cons_succ, List.getElem_toArray, List.getElem_cons_zero, List.getElem_cons_succ]
              refine wpAnyH_take (i := 22) (v := undef) rfl (by kernel_rfl) (by kernel_rfl) (by kernel_rfl) (fun _ _ _ h => h) (Or.inr ⟨by rfl, rfl⟩) (by assumption) ?_
              simp only [Act.put, List.setIfInBounds_toArray, List.set_cons_zero, List.set_cons_succ, List.getElem_toArray, List.getElem_cons_zero, List.getElem_cons_succ]
              refine wpAnyH_take (i := 23) (v := ?_) rfl (by kernel_rfl) (by kernel_rfl) (by kernel_rfl) (fun _ _ _ h => h) (Or.inl ⟨by rfl, ?_⟩) (by assumption) ?_
              rotate_left
              · intro wt hSt
                try dsimp only at hSt
                first | (go_simp; done) | (go_simp; with_reducible rfl)
              simp only [Act.put, List.setIfInBounds_toArray, List.set_cons_zero, List.set_cons_succ, List.getElem_toArray, List.getElem_cons_zero, List.getElem_cons_succ]
              refine wpAnyH_done (by kernel_rfl) ?_ _
              go_wp2
              go_ret
              exact ⟨rfl, below_chain hb2 (below_of_drewN _ _ _)⟩
            case pos =>
              by_cases d3 : nw < tmL
              case pos =>
                rw [if_pos (.inr (.inr d3))] at hr
                subst hr
                have cd : ((ps.length : Int) != (hs.length : Int)) = false := by simp [d2]
                have cd3 : decide (nw < tmL) = true := decide_eq_true d3
                clear hpb hlf d2 d3
                refine wp_region_held_drew (S := fun W => W.cell? ⟨w.heap.size, 4, none⟩ = some (.int .i64 nw) ∧ W.cell? ⟨w.heap.size, 5, none⟩ = some (.slice (some ⟨gH, oH, none⟩) hs.length d) ∧ W.cell? ⟨w.heap.size, 6, none⟩ = some (.slice B ps.length e) ∧ W.cell? ⟨gH, oH, none⟩ = some (.int .i64 0)) (by kernel_rfl) ⟨a4, a5, a6, j0⟩ (fun hHeld => ?_)
                refine wpAnyH_take (i := 0) (v := ?_) rfl (by kernel_rfl) (by kernel_rfl) (by kernel_rfl) (fun _ _ _ h => h) (Or.inl ⟨by rfl, ?_⟩) (by assumption) ?_
                rotate_left
                · intro wt hSt
                  try dsimp only at hSt
                  first | (go_simp; done) | (go_simp; with_reducible rfl)
                simp only [Act.put, List.setIfInBounds_toArray, List.set_cons_zero, List.set_cons_succ, List.getElem_toArray, List.getElem_cons_zero]
                refine wpAnyH_take (i := 1) (v := ?_) rfl (by kernel_rfl) (by kernel_rfl) (by kernel_rfl) (fun _ _ _ h => h) (Or.inl ⟨by rfl, ?_⟩) (by assumption) ?_
                rotate_left
                · intro wt hSt
                  try dsimp only at hSt
                  first | (go_simp; done) | (go_simp; with_reducible rfl)
                simp only [Act.put, List.setIfInBounds_toArray, List.set_cons_zero, List.set_cons_succ, List.getElem_toArray, List.getElem_cons_zero, List.getElem_cons_succ]
                refine wpAnyH_take (i := 2) (v := ?_) rfl (by kernel_rfl) (by kernel_rfl) (by kernel_rfl) (fun _ _ _ h => h) (Or.inl ⟨by rfl, ?_⟩) (by assumption) ?_
                rotate_left
                · intro wt hSt
                  try dsimp only at hSt
                  first | (go_simp; done) | (go_simp; with_reducible rfl)
                simp only [Act.put, List.setIfInBounds_toArray, List.set_cons_zero, List.set_cons_succ, List.getElem_toArray, List.getElem_cons_zero, List.getElem_cons_succ]
                refine wpAnyH_take (i := 3) (v := ?_) rfl (by kernel_rfl) (by kernel_rfl) (by kernel_rfl) (fun _ _ _ h => h) (Or.inl ⟨by rfl, ?_⟩) (by assumption) ?_
                rotate_left
                · intro wt hSt
                  try dsimp only at hSt
                  first | (go_simp; done) | (go_simp; with_reducible rfl)
                simp only [Act.put, List.setIfInBounds_toArray, List.set_cons_zero, List.set_cons_succ, List.getElem_toArray, List.getElem_cons_zero, List.getElem_cons_succ]
                refine wpAnyH_take (i := 4) (v := ?_) rfl (by kernel_rfl) (by kernel_rfl) (by kernel_rfl) (fun _ _ _ h => h) (Or.inl ⟨by rfl, ?_⟩) (by assumption) ?_
                rotate_left
                · intro wt hSt
                  try dsimp only at hSt
                  first | (go_simp; done) | (go_simp; with_reducible rfl)
                simp only [Act.put, List.setIfInBounds_toArray, List.set_cons_zero, List.set_cons_succ, List.getElem_toArray, List.getElem_cons_zero, List.getElem_cons_succ]
                refine wpAnyH_take (i := 5) (v := ?_) rfl (by kernel_rfl) (by kernel_rfl) (by kernel_rfl) (fun _ _ _ h => h) (Or.inl ⟨by rfl, ?_⟩) (by assumption) ?_
                rotate_left
                · intro wt hSt
                  try dsimp only at hSt
                  first | (go_simp; done) | (go_simp; with_reducible rfl)
                simp only [Act.put, List.setIfInBounds_toArray, List.set_cons_zero, List.set_cons_succ, List.getElem_toArray, List.getElem_cons_zero, List.getElem_cons_succ]
                refine wpAnyH_take (i := 6) (v := ?_) rfl (by kernel_rfl) (by kernel_rfl) (by kernel_rfl) (fun _ _ _ h => h) (Or.inl ⟨by rfl, ?_⟩) (by assumption) ?_
                rotate_left
                · intro wt hSt
                  try dsimp only at hSt
                  first | (go_simp; done) | (go_simp; with_reducible rfl)
                simp only [Act.put, List.setIfInBounds_toArray, List.set_cons_zero, List.set_cons_succ, List.getElem_toArray, List.getElem_cons_zero, List.getElem_cons_succ]
                refine wpAnyH_take (i := 7) (v := ?_) rfl (by kernel_rfl) (by kernel_rfl) (by kernel_rfl) (fun _ _ _ h => h) (Or.inl ⟨by rfl, ?_⟩) (by assumption) ?_
                rotate_left
                · intro wt hSt
                  try dsimp only at hSt
                  first | (go_simp; done) | (go_simp; with_reducible rfl)
                simp only [Act.put, List.setIfInBounds_toArray, List.set_cons_zero, List.set_cons_succ, List.getElem_toArray, List.getElem_cons_zero, List.getElem_cons_succ]
                refine wpAnyH_take (i := 8) (v := ?_) rfl (by kernel_rfl) (by kernel_rfl) (by kernel_rfl) (fun _ _ _ h => h) (Or.inl ⟨by rfl, ?_⟩) (by assumption) ?_
                rotate_left
                · intro wt hSt
                  try dsimp only at hSt
                  first | (go_simp; done) | (go_simp; with_reducible rfl)
                simp only [Act.put, List.setIfInBounds_toArray, List.set_cons_zero, List.set_cons_succ, List.getElem_toArray, List.getElem_cons_zero, List.getElem_cons_succ]
                refine wpAnyH_take (i := 9) (v := ?_) rfl (by kernel_rfl) (by kernel_rfl) (by kernel_rfl) (fun _ _ _ h => h) (Or.inl ⟨by rfl, ?_⟩) (by assumption) ?_
                rotate_left
                · intro wt hSt
                  try dsimp only at hSt
                  first | (go_simp; done) | (go_simp; with_reducible rfl)
                simp only [Act.put, List.setIfInBounds_toArray, List.set_cons_zero, List.set_cons_succ, List.getElem_toArray, List.getElem_cons_zero, List.getElem_cons_succ]
                refine wpAnyH_take (i := 10) (v := ?_) rfl (by kernel_rfl) (by kernel_rfl) (by kernel_rfl) (fun _ _ _ h => h) (Or.inl ⟨by rfl, ?_⟩) (by assumption) ?_
                rotate_left
                · intro wt hSt
                  try dsimp only at hSt
                  first | (go_simp; done) | (go_simp; with_reducible rfl)
                simp only [Act.put, List.setIfInBounds_toArray, List.set_cons_zero, List.set_cons_succ, List.getElem_toArray, List.getElem_cons_zero, List.getElem_cons_succ]
                refine wpAnyH_take (i := 11) (v := ?_) rfl (by kernel_rfl) (by kernel_rfl) (by kernel_rfl) (fun _ _ _ h => h) (Or.inl ⟨by rfl, ?_⟩) (by assumption) ?_
                rotate_left
                · intro wt hSt
                  try dsimp only at hSt
                  first | (go_simp; done) | (go_simp; with_reducible rfl)
                simp only [Act.put, List.setIfInBounds_toArray, List.set_cons_zero, List.set_cons_succ, List.getElem_toArray, List.getElem_cons_zero, List.getElem_cons_succ]
                refine wpAnyH_take (i := 12) (v := ?_) rfl (by kernel_rfl) (by kernel_rfl) (by kernel_rfl) (fun _ _ _ h => h) (Or.inl ⟨by rfl, ?_⟩) (by assumption) ?_
                rotate_left
                · intro wt hSt
                  try dsimp only at hSt
                  first | (go_simp; done) | (go_simp; with_reducible rfl)
                simp only [Act.put, List.setIfInBounds_toArray, List.set_cons_zero, List.set_cons_succ, List.getElem_toArray, List.getElem_cons_zero, List.getElem_cons_succ]
                refine wpAnyH_take (i := 13) (v := ?_) rfl (by kernel_rfl) (by kernel_rfl) (by kernel_rfl) (fun _ _ _ h => h) (Or.inl ⟨by rfl, ?_⟩) (by assumption) ?_
                rotate_left
                · intro wt hSt
                  try dsimp only at hSt
                  first | (go_simp; done) | (go_simp; with_reducible rfl)
                simp only [Act.put, List.setIfInBounds_toArray, List.set_cons_zero, List.set_cons_succ, List.getElem_toArray, List.getElem_cons_zero, List.getElem_cons_succ]
                refine wpAnyH_take (i := 14) (v := ?_) rfl (by kernel_rfl) (by kernel_rfl) (by kernel_rfl) (fun _ _ _ h => h) (Or.inl ⟨by rfl, ?_⟩) (by assumption) ?_
                rotate_left
                · intro wt hSt
                  try dsimp only at hSt
                  first | (go_simp; done) | (go_simp; with_reducible rfl)
                simp only [Act.put, List.setIfInBounds_toArray, List.set_cons_zero, List.set_cons_succ, List.getElem_toArray, List.getElem_cons_zero, List.getElem_cons_succ]
                refine wpAnyH_take (i := 15) (v := ?_) rfl (by kernel_rfl) (by kernel_rfl) (by kernel_rfl) (fun _ _ _ h => h) (Or.inl ⟨by rfl, ?_⟩) (by assumption) ?_
                rotate_left
                · intro wt hSt
                  try dsimp only at hSt
                  first | (go_simp; done) | (go_simp; with_reducible rfl)
                simp only [Act.put, List.setIfInBounds_toArray, List.set_cons_zero, List.set_cons_succ, List.getElem_toArray, List.getElem_cons_zero, List.getElem_cons_succ]
                refine wpAnyH_take (i := 16) (v := ?_) rfl (by kernel_rfl) (by kernel_rfl) (by kernel_rfl) (fun _ _ _ h => h) (Or.inl ⟨by rfl, ?_⟩) (by assumption) ?_
                rotate_left
                · intro wt hSt
                  try dsimp only at hSt
                  first | (go_simp; done) | (go_simp; with_reducible rfl)
                simp only [Act.put, List.setIfInBounds_toArray, List.set_cons_zero, List.set_cons_succ, List.getElem_toArray, List.getElem_cons_zero, List.getElem_cons_succ]
                refine wpAnyH_take (i := 17) (v := ?_) rfl (by kernel_rfl) (by kernel_rfl) (by kernel_rfl) (fun _ _ _ h => h) (Or.inl ⟨by rfl, ?_⟩) (by assumption) ?_
                rotate_left
                · intro wt hSt
                  try dsimp only at hSt
                  first | (go_simp; done) | (go_simp; with_reducible rfl)
                simp only [Act.put, List.setIfInBounds_toArray, List.set_cons_zero, List.set_cons_succ, List.getElem_toArray, List.getElem_cons_zero, List.getElem_cons_succ]
                refine wpAnyH_take (i := 20) (v := ?_) rfl (by kernel_rfl) (by kernel_rfl) (by kernel_rfl) (fun _ _ _ h => h) (Or.inl ⟨by rfl, ?_⟩) (by assumption) ?_
                rotate_left
                · intro wt hSt
                  try dsimp only at hSt
                  first | (go_simp; done) | (go_simp; with_reducible rfl)
                simp only [Act.put, List.setIfInBounds_toArray, List.set_cons_zero, List.set_cons_succ, List.getElem_toArray, List.getElem_cons_zero, List.getElem_cons_succ]
                refine wpAnyH_take (i := 21) (v := ?_) rfl (by kernel_rfl) (by kernel_rfl) (by kernel_rfl) (fun _ _ _ h => h) (Or.inl ⟨by rfl, ?_⟩) (by assumption) ?_
                rotate_left
                · intro wt hSt
                  try dsimp only at hSt
                  first | (go_simp; done) | (go_simp; with_reducible rfl)
                simp only [Act.put, List.setIfInBounds_toArray, List.set_cons_zero, List.set_cons_succ, List.getElem_toArray, List.getElem_cons_zero, List.getElem_cons_succ]
                refine wpAnyH_ready (rs := [18]) (by kernel_rfl) (by simp) ?_
                refine AllReadyH.cons rfl (fun K hK => ?_) AllReadyH.nil
                go_simp
                go_at_call 34
                refine (hLs _ (hH2.drewN 1)).out.mono ?_
                rintro x w3 ⟨rfl, hb3'⟩
                have hb3 : Below w2.heap.size w2 w3 := below_chain (bdrew (Below.refl _ _)) hb3'
                have x3 := x2.below hb3
                obtain ⟨s0, s1, s2, s3, s4, s5, s6⟩ := x3.get7
                go_wp2_with fail
                refine hK.out _ _ ⟨s4, s5, s6, kept j0 hb3⟩ (fun hHeld => ?_)
                clear hK K
                refine wpAnyH_take (i := 19) (v := ?_) rfl (by kernel_rfl) (by kernel_rfl) (by kernel_rfl) (fun _ _ _ h => h) (Or.inl ⟨by rfl, ?_⟩) (by assumption) ?_
                rotate_left
                · intro wt hSt
                  try dsimp only at hSt
                  first | (go_simp; done) | (go_simp; with_reducible rfl)
                simp only [Act.put, List.setIfInBounds_toArray, List.set_cons_zero, List.set_cons_succ, List.getElem_toArray, List.getElem_cons_zero, List.getElem_cons_succ]
                refine wpAnyH_take (i := 22) (v := ?_) rfl (by kernel_rfl) (by kernel_rfl) (by kernel_rfl) (fun _ _ _ h => h) (Or.inl ⟨by rfl, ?_⟩) (by assumption) ?_
                rotate_left
                · intro wt hSt
                  try dsimp only at hSt
                  first | (go_simp; done) | (go_simp; with_reducible rfl)
                simp only [Act.put, List.setIfInBounds_toArray, List.set_cons_zero, List.set_cons_succ, List.getElem_toArray, List.getElem_cons_zero, List.getElem_cons_succ]
                refine wpAnyH_take (i := 23) (v := ?_) rfl (by kernel_rfl) (by kernel_rfl) (by kernel_rfl) (fun _ _ _ h => h) (Or.inl ⟨by rfl, ?_⟩) (by assumption) ?_
                rotate_left
                · intro wt hSt
                  try dsimp only at hSt
                  first | (go_simp; done) | (go_simp; with_reducible rfl)
                simp only [Act.put, List.setIfInBounds_toArray, List.set_cons_zero, List.set_cons_succ, List.getElem_toArray, List.getElem_cons_zero, List.getElem_cons_succ]
                refine wpAnyH_done (by kernel_rfl) ?_ _
                go_wp2
                go_ret
                exact ⟨rfl, below_chain hb2 hb3⟩
              case neg =>
                rw [if_neg (by rintro (h | h | h); exact h rfl; exact h d2; exact d3 h)] at hr
                have cd : ((ps.length : Int) != (hs.length : Int)) = false := by simp [d2]
                have cd3 : decide (nw < tmL) = false := decide_eq_false d3
                have HD2 := Lib.hid d2
                have HPB := Lib.hid hpb
                have HLF := Lib.hid hlf
                have hps40 : ps.length ≤ 40 := by omega
                clear hpb hlf d2 d3
                refine wp_region_held_drew (S := fun W => W.cell? ⟨w.heap.size, 4, none⟩ = some (.int .i64 nw) ∧ W.cell? ⟨w.heap.size, 5, none⟩ = some (.slice (some ⟨gH, oH, none⟩) hs.length d) ∧ W.cell? ⟨w.heap.size, 6, none⟩ = some (.slice B ps.length e) ∧ W.cell? ⟨gH, oH, none⟩ = some (.int .i64 0)) (by kernel_rfl) ⟨a4, a5, a6, j0⟩ (fun hHeld => ?_)
                refine wpAnyH_take (i := 0) (v := ?_) rfl (by kernel_rfl) (by kernel_rfl) (by kernel_rfl) (fun _ _ _ h => h) (Or.inl ⟨by rfl, ?_⟩) (by assumption) ?_
                rotate_left
                · intro wt hSt
                  try dsimp only at hSt
                  first | (go_simp; done) | (go_simp; with_reducible rfl)
                simp only [Act.put, List.setIfInBounds_toArray, List.set_cons_zero, List.set_cons_succ, List.getElem_toArray, List.getElem_cons_zero]
                refine wpAnyH_take (i := 1) (v := ?_) rfl (by kernel_rfl) (by kernel_rfl) (by kernel_rfl) (fun _ _ _ h => h) (Or.inl ⟨by rfl, ?_⟩) (by assumption) ?_
                rotate_left
                · intro wt hSt
                  try dsimp only at hSt
                  first | (go_simp; done) | (go_simp; with_reducible rfl)
                simp only [Act.put, List.setIfInBounds_toArray, List.set_cons_zero, List.set_cons_succ, List.getElem_toArray, List.getElem_cons_zero, List.getElem_cons_succ]
                refine wpAnyH_take (i := 2) (v := ?_) rfl (by kernel_rfl) (by kernel_rfl) (by kernel_rfl) (fun _ _ _ h => h) (Or.inl ⟨by rfl, ?_⟩) (by assumption) ?_
                rotate_left
                · intro wt hSt
                  try dsimp only at hSt
                  first | (go_simp; done) | (go_simp; with_reducible rfl)
                simp only [Act.put, List.setIfInBounds_toArray, List.set_cons_zero, List.set_cons_succ, List.getElem_toArray, List.getElem_cons_zero, List.getElem_cons_succ]
                refine wpAnyH_take (i := 3) (v := ?_) rfl (by kernel_rfl) (by kernel_rfl) (by kernel_rfl) (fun _ _ _ h => h) (Or.inl ⟨by rfl, ?_⟩) (by assumption) ?_
                rotate_left
                · intro wt hSt
                  try dsimp only at hSt
                  first | (go_simp; done) | (go_simp; with_reducible rfl)
                simp only [Act.put, List.setIfInBounds_toArray, List.set_cons_zero, List.set_cons_succ, List.getElem_toArray, List.getElem_cons_zero, List.getElem_cons_succ]
                refine wpAnyH_take (i := 4) (v := ?_) rfl (by kernel_rfl) (by kernel_rfl) (by kernel_rfl) (fun _ _ _ h => h) (Or.inl ⟨by rfl, ?_⟩) (by assumption) ?_
                rotate_left
                · intro wt hSt
                  try dsimp only at hSt
                  first | (go_simp; done) | (go_simp; with_reducible rfl)
                simp only [Act.put, List.setIfInBounds_toArray, List.set_cons_zero, List.set_cons_succ, List.getElem_toArray, List.getElem_cons_zero, List.getElem_cons_succ]
                refine wpAnyH_take (i := 5) (v := ?_) rfl (by kernel_rfl) (by kernel_rfl) (by kernel_rfl) (fun _ _ _ h => h) (Or.inl ⟨by rfl, ?_⟩) (by assumption) ?_
                rotate_left
                · intro wt hSt
                  try dsimp only at hSt
                  first | (go_simp; done) | (go_simp; with_reducible rfl)
                simp only [Act.put, List.setIfInBounds_toArray, List.set_cons_zero, List.set_cons_succ, List.getElem_toArray, List.getElem_cons_zero, List.getElem_cons_succ]
                refine wpAnyH_take (i := 6) (v := ?_) rfl (by kernel_rfl) (by kernel_rfl) (by kernel_rfl) (fun _ _ _ h => h) (Or.inl ⟨by rfl, ?_⟩) (by assumption) ?_
                rotate_left
                · intro wt hSt
                  try dsimp only at hSt
                  first | (go_simp; done) | (go_simp; with_reducible rfl)
                simp only [Act.put, List.setIfInBounds_toArray, List.set_cons_zero, List.set_cons_succ, List.getElem_toArray, List.getElem_cons_zero, List.getElem_cons_succ]
                refine wpAnyH_take (i := 7) (v := ?_) rfl (by kernel_rfl) (by kernel_rfl) (by kernel_rfl) (fun _ _ _ h => h) (Or.inl ⟨by rfl, ?_⟩) (by assumption) ?_
                rotate_left
                · intro wt hSt
                  try dsimp only at hSt
                  first | (go_simp; done) | (go_simp; with_reducible rfl)
                simp only [Act.put, List.setIfInBounds_toArray, List.set_cons_zero, List.set_cons_succ, List.getElem_toArray, List.getElem_cons_zero, List.getElem_cons_succ]
                refine wpAnyH_take (i := 8) (v := ?_) rfl (by kernel_rfl) (by kernel_rfl) (by kernel_rfl) (fun _ _ _ h => h) (Or.inl ⟨by rfl, ?_⟩) (by assumption) ?_
                rotate_left
                · intro wt hSt
                  try dsimp only at hSt
                  first | (go_simp; done) | (go_simp; with_reducible rfl)
                simp only [Act.put, List.setIfInBounds_toArray, List.set_cons_zero, List.set_cons_succ, List.getElem_toArray, List.getElem_cons_zero, List.getElem_cons_succ]
                refine wpAnyH_take (i := 9) (v := ?_) rfl (by kernel_rfl) (by kernel_rfl) (by kernel_rfl) (fun _ _ _ h => h) (Or.inl ⟨by rfl, ?_⟩) (by assumption) ?_
                rotate_left
                · intro wt hSt
                  try dsimp only at hSt
                  first | (go_simp; done) | (go_simp; with_reducible rfl)
                simp only [Act.put, List.setIfInBounds_toArray, List.set_cons_zero, List.set_cons_succ, List.getElem_toArray, List.getElem_cons_zero, List.getElem_cons_succ]
                refine wpAnyH_take (i := 10) (v := ?_) rfl (by kernel_rfl) (by kernel_rfl) (by kernel_rfl) (fun _ _ _ h => h) (Or.inl ⟨by rfl, ?_⟩) (by assumption) ?_
                rotate_left
                · intro wt hSt
                  try dsimp only at hSt
                  first | (go_simp; done) | (go_simp; with_reducible rfl)
                simp only [Act.put, List.setIfInBounds_toArray, List.set_cons_zero, List.set_cons_succ, List.getElem_toArray, List.getElem_cons_zero, List.getElem_cons_succ]
                refine wpAnyH_take (i := 11) (v := ?_) rfl (by kernel_rfl) (by kernel_rfl) (by kernel_rfl) (fun _ _ _ h => h) (Or.inl ⟨by rfl, ?_⟩) (by assumption) ?_
                rotate_left
                · intro wt hSt
                  try dsimp only at hSt
                  first | (go_simp; done) | (go_simp; with_reducible rfl)
                simp only [Act.put, List.setIfInBounds_toArray, List.set_cons_zero, List.set_cons_succ, List.getElem_toArray, List.getElem_cons_zero, List.getElem_cons_succ]
                refine wpAnyH_take (i := 12) (v := ?_) rfl (by kernel_rfl) (by kernel_rfl) (by kernel_rfl) (fun _ _ _ h => h) (Or.inl ⟨by rfl, ?_⟩) (by assumption) ?_
                rotate_left
                · intro wt hSt
                  try dsimp only at hSt
                  first | (go_simp; done) | (go_simp; with_reducible rfl)
                simp only [Act.put, List.setIfInBounds_toArray, List.set_cons_zero, List.set_cons_succ, List.getElem_toArray, List.getElem_cons_zero, List.getElem_cons_succ]
                refine wpAnyH_take (i := 13) (v := ?_) rfl (by kernel_rfl) (by kernel_rfl) (by kernel_rfl) (fun _ _ _ h => h) (Or.inl ⟨by rfl, ?_⟩) (by assumption) ?_
                rotate_left
                · intro wt hSt
                  try dsimp only at hSt
                  first | (go_simp; done) | (go_simp; with_reducible rfl)
                simp only [Act.put, List.setIfInBounds_toArray, List.set_cons_zero, List.set_cons_succ, List.getElem_toArray, List.getElem_cons_zero, List.getElem_cons_succ]
                refine wpAnyH_take (i := 14) (v := ?_) rfl (by kernel_rfl) (by kernel_rfl) (by kernel_rfl) (fun _ _ _ h => h) (Or.inl ⟨by rfl, ?_⟩) (by assumption) ?_
                rotate_left
                · intro wt hSt
                  try dsimp only at hSt
                  first | (go_simp; done) | (go_simp; with_reducible rfl)
                simp only [Act.put, List.setIfInBounds_toArray, List.set_cons_zero, List.set_cons_succ, List.getElem_toArray, List.getElem_cons_zero, List.getElem_cons_succ]
                refine wpAnyH_take (i := 15) (v := ?_) rfl (by kernel_rfl) (by kernel_rfl) (by kernel_rfl) (fun _ _ _ h => h) (Or.inl ⟨by rfl, ?_⟩) (by assumption) ?_
                rotate_left
                · intro wt hSt
                  try dsimp only at hSt
                  first | (go_simp; done) | (go_simp; with_reducible rfl)
                simp only [Act.put, List.setIfInBounds_toArray, List.set_cons_zero, List.set_cons_succ, List.getElem_toArray, List.getElem_cons_zero, List.getElem_cons_succ]
                refine wpAnyH_take (i := 16) (v := ?_) rfl (by kernel_rfl) (by kernel_rfl) (by kernel_rfl) (fun _ _ _ h => h) (Or.inl ⟨by rfl, ?_⟩) (by assumption) ?_
                rotate_left
                · intro wt hSt
                  try dsimp only at hSt
                  first | (go_simp; done) | (go_simp; with_reducible rfl)
                simp only [Act.put, List.setIfInBounds_toArray, List.set_cons_zero, List.set_cons_succ, List.getElem_toArray, List.getElem_cons_zero, List.getElem_cons_succ]
                refine wpAnyH_take (i := 17) (v := ?_) rfl (by kernel_rfl) (by kernel_rfl) (by kernel_rfl) (fun _ _ _ h => h) (Or.inl ⟨by rfl, ?_⟩) (by assumption) ?_
                rotate_left
                · intro wt hSt
                  try dsimp only at hSt
                  first | (go_simp; done) | (go_simp; with_reducible rfl)
                simp only [Act.put, List.setIfInBounds_toArray, List.set_cons_zero, List.set_cons_succ, List.getElem_toArray, List.getElem_cons_zero, List.getElem_cons_succ]
                refine wpAnyH_take (i := 20) (v := ?_) rfl (by kernel_rfl) (by kernel_rfl) (by kernel_rfl) (fun _ _ _ h => h) (Or.inl ⟨by rfl, ?_⟩) (by assumption) ?_
                rotate_left
                · intro wt hSt
                  try dsimp only at hSt
                  first | (go_simp; done) | (go_simp; with_reducible rfl)
                simp only [Act.put, List.setIfInBounds_toArray, List.set_cons_zero, List.set_cons_succ, List.getElem_toArray, List.getElem_cons_zero, List.getElem_cons_succ]
                refine wpAnyH_take (i := 21) (v := ?_) rfl (by kernel_rfl) (by kernel_rfl) (by kernel_rfl) (fun _ _ _ h => h) (Or.inl ⟨by rfl, ?_⟩) (by assumption) ?_
                rotate_left
                · intro wt hSt
                  try dsimp only at hSt
                  first | (go_simp; done) | (go_simp; with_reducible rfl)
                simp only [Act.put, List.setIfInBounds_toArray, List.set_cons_zero, List.set_cons_succ, List.getElem_toArray, List.getElem_cons_zero, List.getElem_cons_succ]
                refine wpAnyH_ready (rs := [18]) (by kernel_rfl) (by simp) ?_
                refine AllReadyH.cons rfl (fun K hK => ?_) AllReadyH.nil
                go_simp
                go_at_call 34
                refine (hLs _ (hH2.drewN 1)).out.mono ?_
                rintro x w3 ⟨rfl, hb3'⟩
                have hb3 : Below w2.heap.size w2 w3 := below_chain (bdrew (Below.refl _ _)) hb3'
                have x3 := x2.below hb3
                obtain ⟨s0, s1, s2, s3, s4, s5, s6⟩ := x3.get7
                go_wp2_with fail
                refine hK.out _ _ ⟨s4, s5, s6, kept j0 hb3⟩ (fun hHeld => ?_)
                clear hK K
                refine wpAnyH_take (i := 19) (v := ?_) rfl (by kernel_rfl) (by kernel_rfl) (by kernel_rfl) (fun _ _ _ h => h) (Or.inl ⟨by rfl, ?_⟩) (by assumption) ?_
                rotate_left
                · intro wt hSt
                  try dsimp only at hSt
                  first | (go_simp; done) | (go_simp; with_reducible rfl)
                simp only [Act.put, List.setIfInBounds_toArray, List.set_cons_zero, List.set_cons_succ, List.getElem_toArray, List.getElem_cons_zero, List.getElem_cons_succ]
                refine wpAnyH_take (i := 22) (v := ?_) rfl (by kernel_rfl) (by kernel_rfl) (by kernel_rfl) (fun _ _ _ h => h) (Or.inl ⟨by rfl, ?_⟩) (by assumption) ?_
                rotate_left
                · intro wt hSt
                  try dsimp only at hSt
                  first | (go_simp; done) | (go_simp; with_reducible rfl)
                simp only [Act.put, List.setIfInBounds_toArray, List.set_cons_zero, List.set_cons_succ, List.getElem_toArray, List.getElem_cons_zero, List.getElem_cons_succ]
                refine wpAnyH_take (i := 23) (v := ?_) rfl (by kernel_rfl) (by kernel_rfl) (by kernel_rfl) (fun _ _ _ h => h) (Or.inl ⟨by rfl, ?_⟩) (by assumption) ?_
                rotate_left
                · intro wt hSt
                  try dsimp only at hSt
                  first | (go_simp; done) | (go_simp; with_reducible rfl)
                simp only [Act.put, List.setIfInBounds_toArray, List.set_cons_zero, List.set_cons_succ, List.getElem_toArray, List.getElem_cons_zero, List.getElem_cons_succ]
                refine wpAnyH_done (by kernel_rfl) ?_ _
                have hA3 := hA2.below hb3
                have hB3 := hB2.below hb3
                have hH3 := hH2.below hb3
                have hb03 := below_chain hb2 hb3
                clear hb2 hb3 hb3' x2 hH2 hB2 hA2 a0 a1 a2 a3 a4 a5 a6 j0 hLs hf3
                go_wp2
                clear s0 s1 s2 s3 s4 s5
                obtain ⟨bf, hbf⟩ : ∃ u, booksFault (bks ps) hs = u := ⟨_, rfl⟩
                rw [hbf] at hr
                have HR := Lib.hid hr
                have HBF : Hid (booksFault ((bks ps).drop 0) (hs.drop 0) = bf) := hbf
                have HBK := Lib.hid hbf
                clear hr hbf
                go_loopw [72] (fun i wr => ∃ k : Nat, k ≤ ps.length ∧ i = .int .i64 k ∧ Hid (booksFault ((bks ps).drop k) (hs.drop k) = bf) ∧ Below w3.heap.size w3 wr) (fun i _ => ps.length - (intOf i).toNat)
                case atStart => exact ⟨0, Nat.zero_le _, rfl, HBF, Below.refl _ _⟩
                case round =>
                  obtain ⟨k, hk, rfl, HK, hbl⟩ := hrel
                  have x4 := x3.below hbl
                  have hb4 := below_chain hb03 hbl
                  clear HBF
                  by_cases hlt : k < ps.length
                  case pos =>
                    have hlt' : k < hs.length := by have := HD2.out; omega
                    obtain ⟨gB, oB, rfl, jB, rB⟩ := (hB3.below hbl).get k hlt
                    obtain ⟨gK, oK, eH, r0, r1, r2, r3⟩ := (hH3.below hbl).head k hlt'
                    injection eH with eH
                    injection eH with e1 e2 _
                    subst e1; subst e2
                    have HK2 : Hid ((if bookErr ps[k].2.2 hs[k].2.1 = 0 then booksFault ((bks ps).drop (k + 1)) (hs.drop (k + 1)) else bookErr ps[k].2.2 hs[k].2.1) = bf) := by
                      show _ = _
                      have e1 := HK.out
                      rw [booksFault_step (by rw [bks_length]; exact hlt) hlt', bks_get ps k hlt] at e1
                      exact e1
                    have hpk := HPB.out _ (List.getElem_mem hlt)
                    have a5 := x4.get7.2.2.2.2.2.1
                    generalize ps[k].2.2 = bk at *
                    generalize ps[k].1 = P1 at *
                    generalize ps[k].2.1 = P2 at *
                    generalize hs[k].1 = ep at *
                    generalize hs[k].2.1 = rt at *
                    generalize hs[k].2.2.1 = pv at *
                    generalize hs[k].2.2.2 = tm at *
                    obtain ⟨f, hf⟩ : ∃ f, bookErr bk rt = f := ⟨_, rfl⟩
                    rw [hf] at HK2
                    have hFa := fun (w : World) h => Lib.hid (clerkCheckBook P1 P2 bk ep rt pv tm w hpk.1 hpk.2 h f hf)
                    have i8 : (0 : Int) ≤ (k : Int) := by omega
                    have i9 : (k : Int) < (ps.length : Int) := by omega
                    have i10 : (k : Int) < (hs.length : Int) := by omega
                    have hEH := hbl.size
                    clear hf
                    by_cases f0 : f = 0
                    case neg =>
                      have e : bf = f := by
                        have := HK2.out
                        rw [if_neg f0] at this
                        exact this.symm
                      have HF : Hid (f = r) := by
                        show _ = _
                        have := HR.out
                        rw [e, if_neg f0] at this
                        exact this
                      have cf : (f != 0) = true := bne_iff_ne.2 f0
                      clear HK HK2 HR HBK f0 e hpk x3 x4 hb03
                      go_wp2_with fail
                      refine (hFa _ rB).out.mono ?_
                      rintro x w4 ⟨rfl, hb5⟩
                      go_wp2
                      go_ret
                      exact ⟨by rw [← HF.out]; rfl, below_chain hb4 hb5⟩
                    case pos =>
                      subst f0
                      have HK4 : Hid (booksFault ((bks ps).drop (k + 1)) (hs.drop (k + 1)) = bf) := by have := HK2.out; rw [if_pos rfl] at this; exact this
                      clear HK HK2 hpk x3 hb03
                      go_wp2_with fail
                      refine (hFa _ rB).out.mono ?_
                      rintro x w4 ⟨rfl, hb5⟩
                      go_wp2
                      go_roundw
                      case rel => exact ⟨k + 1, by omega, by go_num, HK4, below_chain hbl hb5⟩
                      case measure => simp [intOf]; omega
                  case neg =>
                    have e0 : bf = 0 := by
                      have := HK.out
                      rw [List.drop_eq_nil_of_le (by rw [bks_length]; omega)] at this
                      rw [← this]
                      rfl
                    have hr' := HR.out
                    rw [e0, if_pos rfl] at hr'
                    have hpm : ps.length = n + 1 := by have := HD2.out; have := HYtjcockcilkiggaaGreat.out; omega
                    obtain ⟨bk, hbk⟩ : ∃ u, (ps[n]'(by omega)).2.2 = u := ⟨_, rfl⟩
                    have hgd : Good bk := by
                      have := (booksFault_ok _ _).1 (by rw [HBK.out]; exact e0) n (by rw [bks_length]; omega) (by omega)
                      rw [bks_get ps n (by omega), hbk] at this
                      exact this.1
                    have hlb : lastBk ⟨most, l, ba, ev, nw, hs, bks ps⟩ = bk := by
                      rw [lastBk_at (m := n) (by show (bks ps).length = _; rw [bks_length]; exact hpm)]
                      show (bks ps)[n]'_ = bk
                      rw [bks_get ps n (by omega), hbk]
                    obtain ⟨nn, hnn⟩ : ∃ u, (Bin.srt (namesOf bk l [])).length = u := ⟨_, rfl⟩
                    have HF : Hid ((if 24 < nn then (7 : Int) else 0) = r) := by
                      show _ = _
                      rw [← hr', namesN, hlb, hnn]
                    have hA4 := hA3.below hbl
                    have hB4 := hB3.below hbl
                    have rB := hB4.each _ (List.getElem_mem (by omega : n < ps.length))
                    rw [hbk] at rB
                    obtain ⟨P1, hP1⟩ : ∃ u, (ps[n]'(by omega)).1 = u := ⟨_, rfl⟩
                    obtain ⟨P2, hP2⟩ : ∃ u, (ps[n]'(by omega)).2.1 = u := ⟨_, rfl⟩
                    rw [hP1] at rB
                    have hLb := fun (w : World) h => Lib.hid (clerkLastB B e n ps w hpm (by omega) h P1 P2 bk.length hP1 hP2 (by rw [hbk]))
                    have hCr := fun (w : World) (u : Bool) (hu : decide (24 < nn) = u) h1 h2 => Lib.hid (clerkCrowded P1 A P2 c bk l w (by have := hgd.len; omega) (by have := hqg.len; have := hqg.m30; omega) (fun y hy => by have := Bin.name_len (hgd.name y hy); unfold maxLen; omega) (fun y hy => by have := ((askFault_ok _ _).1 (hqg.each y hy)).1; have := Bin.name_len this; unfold maxLen; omega) h1 h2 u (by rw [hnn]; exact hu))
                    have a6 := x4.get7.2.2.2.2.2.2
                    have a1 := x4.get7.2.1
                    rw [hpm] at a6
                    have HPM := Lib.hid hpm
                    clear HK HR HBK e0 hr' hbk hgd hlb hnn hA3 hB3 hH3 hbl hP1 hP2
                    by_cases h24 : 24 < nn
                    case pos =>
                      have HF2 : Hid ((7 : Int) = r) := by have := HF.out; rw [if_pos h24] at this; exact this
                      have hCr2 := fun w h1 h2 => hCr w true (decide_eq_true h24) h1 h2
                      clear HF hCr
                      go_wp2
                      refine wp_region_held_drew (S := fun W => W.cell? ⟨w.heap.size, 6, none⟩ = some (.slice B (n + 1) e) ∧ W.cell? ⟨w.heap.size, 1, none⟩ = some (.slice A l.length c)) (by kernel_rfl) ⟨a6, a1⟩ (fun hHeld => ?_)
                      refine wpAnyH_take (i := 0) (v := ?_) rfl (by kernel_rfl) (by kernel_rfl) (by kernel_rfl) (fun _ _ _ h => h) (Or.inl ⟨by rfl, ?_⟩) (by assumption) ?_
                      rotate_left
                      · intro wt hSt
                        try dsimp only at hSt
                        first | (go_simp; done) | (go_simp; with_reducible rfl)
                      simp only [Act.put, List.setIfInBounds_toArray, List.set_cons_zero, List.set_cons_succ, List.getElem_toArray, List.getElem_cons_zero]
                      refine wpAnyH_take (i := 1) (v := ?_) rfl (by kernel_rfl) (by kernel_rfl) (by kernel_rfl) (fun _ _ _ h => h) (Or.inl ⟨by rfl, ?_⟩) (by assumption) ?_
                      rotate_left
                      · intro wt hSt
                        try dsimp only at hSt
                        first | (go_simp; done) | (go_simp; with_reducible rfl)
                      simp only [Act.put, List.setIfInBounds_toArray, List.set_cons_zero, List.set_cons_succ, List.getElem_toArray, List.getElem_cons_zero, List.getElem_cons_succ]
                      refine wpAnyH_take (i := 3) (v := ?_) rfl (by kernel_rfl) (by kernel_rfl) (by kernel_rfl) (fun _ _ _ h => h) (Or.inl ⟨by rfl, ?_⟩) (by assumption) ?_
                      rotate_left
                      · intro wt hSt
                        try dsimp only at hSt
                        first | (go_simp; done) | (go_simp; with_reducible rfl)
                      simp only [Act.put, List.setIfInBounds_toArray, List.set_cons_zero, List.set_cons_succ, List.getElem_toArray, List.getElem_cons_zero, List.getElem_cons_succ]
                      refine wpAnyH_take (i := 4) (v := ?_) rfl (by kernel_rfl) (by kernel_rfl) (by kernel_rfl) (fun _ _ _ h => h) (Or.inl ⟨by rfl, ?_⟩) (by assumption) ?_
                      rotate_left
                      · intro wt hSt
                        try dsimp only at hSt
                        first | (go_simp; done) | (go_simp; with_reducible rfl)
                      simp only [Act.put, List.setIfInBounds_toArray, List.set_cons_zero, List.set_cons_succ, List.getElem_toArray, List.getElem_cons_zero, List.getElem_cons_succ]
                      refine wpAnyH_take (i := 5) (v := ?_) rfl (by kernel_rfl) (by kernel_rfl) (by kernel_rfl) (fun _ _ _ h => h) (Or.inl ⟨by rfl, ?_⟩) (by assumption) ?_
                      rotate_left
                      · intro wt hSt
                        try dsimp only at hSt
                        first | (go_simp; done) | (go_simp; with_reducible rfl)
                      simp only [Act.put, List.setIfInBounds_toArray, List.set_cons_zero, List.set_cons_succ, List.getElem_toArray, List.getElem_cons_zero, List.getElem_cons_succ]
                      refine wpAnyH_ready (rs := [2]) (by kernel_rfl) (by simp) ?_
                      refine AllReadyH.cons rfl (fun K hK => ?_) AllReadyH.nil
                      go_simp
                      go_at_call 37
                      refine (hLb _ (hB4.below (bdrew (Below.refl _ _)))).out.mono ?_
                      rintro x w6 ⟨rfl, hw⟩
                      have hw6 := hw.symm
                      subst hw6
                      clear hw
                      go_wp2_with fail
                      refine hK.out _ _ ⟨a6, a1⟩ (fun hHeld => ?_)
                      clear hK K
                      refine wpAnyH_ready (rs := [6]) (by kernel_rfl) (by simp) ?_
                      refine AllReadyH.cons rfl (fun K hK => ?_) AllReadyH.nil
                      go_simp
                      go_at_call 36
                      refine (hCr2 _ (rB.drewN 1) (hA4.drewN 1)).out.mono ?_
                      rintro x w7 ⟨rfl, hb7'⟩
                      have hb7 := below_chain (bdrew (Below.refl wr.heap.size wr)) hb7'
                      go_wp2_with fail
                      refine hK.out _ _ ⟨kept a6 hb7, kept a1 hb7⟩ (fun hHeld => ?_)
                      clear hK K
                      refine wpAnyH_done (by kernel_rfl) ?_ _
                      go_wp2
                      go_ret
                      exact ⟨by rw [← HF2.out]; rfl, below_chain hb4 hb7⟩
                    case neg =>
                      have HF2 : Hid ((0 : Int) = r) := by have := HF.out; rw [if_neg h24] at this; exact this
                      have hCr2 := fun w h1 h2 => hCr w false (decide_eq_false h24) h1 h2
                      clear HF hCr
                      go_wp2
                      refine wp_region_held_drew (S := fun W => W.cell? ⟨w.heap.size, 6, none⟩ = some (.slice B (n + 1) e) ∧ W.cell? ⟨w.heap.size, 1, none⟩ = some (.slice A l.length c)) (by kernel_rfl) ⟨a6, a1⟩ (fun hHeld => ?_)
                      refine wpAnyH_take (i := 0) (v := ?_) rfl (by kernel_rfl) (by kernel_rfl) (by kernel_rfl) (fun _ _ _ h => h) (Or.inl ⟨by rfl, ?_⟩) (by assumption) ?_
                      rotate_left
                      · intro wt hSt
                        try dsimp only at hSt
                        first | (go_simp; done) | (go_simp; with_reducible rfl)
                      simp only [Act.put, List.setIfInBounds_toArray, List.set_cons_zero, List.set_cons_succ, List.getElem_toArray, List.getElem_cons_zero]
                      refine wpAnyH_take (i := 1) (v := ?_) rfl (by kernel_rfl) (by kernel_rfl) (by kernel_rfl) (fun _ _ _ h => h) (Or.inl ⟨by rfl, ?_⟩) (by assumption) ?_
                      rotate_left
                      · intro wt hSt
                        try dsimp only at hSt
                        first | (go_simp; done) | (go_simp; with_reducible rfl)
                      simp only [Act.put, List.setIfInBounds_toArray, List.set_cons_zero, List.set_cons_succ, List.getElem_toArray, List.getElem_cons_zero, List.getElem_cons_succ]
                      refine wpAnyH_take (i := 3) (v := ?_) rfl (by kernel_rfl) (by kernel_rfl) (by kernel_rfl) (fun _ _ _ h => h) (Or.inl ⟨by rfl, ?_⟩) (by assumption) ?_
                      rotate_left
                      · intro wt hSt
                        try dsimp only at hSt
                        first | (go_simp; done) | (go_simp; with_reducible rfl)
                      simp only [Act.put, List.setIfInBounds_toArray, List.set_cons_zero, List.set_cons_succ, List.getElem_toArray, List.getElem_cons_zero, List.getElem_cons_succ]
                      refine wpAnyH_take (i := 4) (v := ?_) rfl (by kernel_rfl) (by kernel_rfl) (by kernel_rfl) (fun _ _ _ h => h) (Or.inl ⟨by rfl, ?_⟩) (by assumption) ?_
                      rotate_left
                      · intro wt hSt
                        try dsimp only at hSt
                        first | (go_simp; done) | (go_simp; with_reducible rfl)
                      simp only [Act.put, List.setIfInBounds_toArray, List.set_cons_zero, List.set_cons_succ, List.getElem_toArray, List.getElem_cons_zero, List.getElem_cons_succ]
                      refine wpAnyH_take (i := 5) (v := ?_) rfl (by kernel_rfl) (by kernel_rfl) (by kernel_rfl) (fun _ _ _ h => h) (Or.inl ⟨by rfl, ?_⟩) (by assumption) ?_
                      rotate_left
                      · intro wt hSt
                        try dsimp only at hSt
                        first | (go_simp; done) | (go_simp; with_reducible rfl)
                      simp only [Act.put, List.setIfInBounds_toArray, List.set_cons_zero, List.set_cons_succ, List.getElem_toArray, List.getElem_cons_zero, List.getElem_cons_succ]
                      refine wpAnyH_ready (rs := [2]) (by kernel_rfl) (by simp) ?_
                      refine AllReadyH.cons rfl (fun K hK => ?_) AllReadyH.nil
                      go_simp
                      go_at_call 37
                      refine (hLb _ (hB4.below (bdrew (Below.refl _ _)))).out.mono ?_
                      rintro x w6 ⟨rfl, hw⟩
                      have hw6 := hw.symm
                      subst hw6
                      clear hw
                      go_wp2_with fail
                      refine hK.out _ _ ⟨a6, a1⟩ (fun hHeld => ?_)
                      clear hK K
                      refine wpAnyH_ready (rs := [6]) (by kernel_rfl) (by simp) ?_
                      refine AllReadyH.cons rfl (fun K hK => ?_) AllReadyH.nil
                      go_simp
                      go_at_call 36
                      refine (hCr2 _ (rB.drewN 1) (hA4.drewN 1)).out.mono ?_
                      rintro x w7 ⟨rfl, hb7'⟩
                      have hb7 := below_chain (bdrew (Below.refl wr.heap.size wr)) hb7'
                      go_wp2_with fail
                      refine hK.out _ _ ⟨kept a6 hb7, kept a1 hb7⟩ (fun hHeld => ?_)
                      clear hK K
                      refine wpAnyH_done (by kernel_rfl) ?_ _
                      go_wp2
                      go_ret
                      exact ⟨by rw [← HF2.out]; rfl, below_chain hb4 hb7⟩
end Go.Proofs.YtjcockcilkiggaaGreat
