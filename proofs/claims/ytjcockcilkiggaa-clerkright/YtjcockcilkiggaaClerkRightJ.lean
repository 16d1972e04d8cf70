/- The law ClerkRight returns true: whatever a server that is valid is asked, and however often it ticks, it stays valid, and the heads and books that it has published stay as they were. No conditions: true for all arguments. -/
import Derived.Test.YtjcockcilkiggaaJ39
import Derived.Test.YtjcockcilkiggaaJ40
import Derived.Test.YtjcockcilkiggaaJ41
import Derived.Test.YtjcockcilkiggaaJ15
import Derived.Deep.DeepCutAuto
namespace Go.Proofs.Ytjcockcilkiggaa
set_option maxRecDepth 100000
open Go.ChangeShapes Go.WideShapes Go.ChangeAt Go.RowKit

set_option maxHeartbeats 4000000 in
theorem clerkRight_fault (k : Ck) (A I B : Option Addr) (c d e : Nat) (ps : List Bp) (hps : bks ps = k.books) (Q Z : Option Addr) (cq cz : Nat) (s : List Ak) (zs : List Int) (w : World)
    (hl : k.wait.length ≤ maxLen) (hlf : ∀ x ∈ k.wait, AkFits x) (hh : k.heads.length ≤ maxLen) (hp : ps.length ≤ maxLen) (hpb : ∀ p ∈ ps, p.2.2.length ≤ maxLen ∧ ∀ x ∈ p.2.2, x.1.length ≤ maxLen ∧ x.2.length ≤ maxLen)
    (hA : Row w A (qcells k.wait)) (hI : Row w I (hcells k.heads)) (hB : Books w B ps) (r : Int) (hr : ckfault k = r) (h0 : r ≠ 0) :
    Calls Try.prog 3 #[.agg #[.int .i64 k.most, .slice A k.wait.length c, .int .i64 k.batch, .int .i64 k.every, .int .i64 k.now, .slice I k.heads.length d, .slice B ps.length e], .slice Q s.length cq, .slice Z zs.length cz] w fun e w' => e = .returned (.bool true) ∧ Below w.heap.size w w' := by
  have hJ := fun w => Lib.hid (clerks w)
  have hCk := fun (w : World) h1 h2 h3 => Lib.hid (clerkCheck k.most k.batch k.every k.now k.wait k.heads ps A I B c d e w hl hlf hh hp hpb h1 h2 h3 r (by rw [hps]; exact hr))
  have c0 : (r != 0) = true := bne_iff_ne.2 h0
  have hb0 := balloc (Below.refl w.heap.size w) (.cells #[.int .i64 k.most, .slice A k.wait.length c, .int .i64 k.batch, .int .i64 k.every, .int .i64 k.now, .slice I k.heads.length d, .slice B ps.length e] 28)
  have x0 := Bx.new w _ rfl _ [.int .i64 k.most, .slice A k.wait.length c, .int .i64 k.batch, .int .i64 k.every, .int .i64 k.now, .slice I k.heads.length d, .slice B ps.length e] 28 rfl
  clear hl hlf hh hp hpb hr h0 hps
  go_enter Try.func3, Try.ntmps3
  go_wp2_with fail
  refine (hJ _).out.mono ?_
  rintro xx w1 ⟨rfl, hb1⟩
  have hb01 := below_chain hb0 hb1
  obtain ⟨a0, a1, a2, a3, a4, a5, a6⟩ := (x0.below hb1).get7
  go_wp2_with fail
  refine (hCk _ (hA.below hb01) (hI.below hb01) (hB.below hb01)).out.mono ?_
  rintro xx w2 ⟨rfl, hb2⟩
  go_wp2
  go_ret
  exact ⟨rfl, below_chain hb01 hb2⟩
set_option maxHeartbeats 16000000 in
theorem clerkRight_good (k : Ck) (A I B : Option Addr) (c d e : Nat) (ps : List Bp) (hps : bks ps = k.books) (Q Z : Option Addr) (cq cz : Nat) (s : List Ak) (zs : List Int) (w : World) (hg : CkGood k) (hcap : k.heads.length ≤ d) (hs1 : s.length ≤ maxLen) (_hz1 : zs.length ≤ maxLen)
    (hs : ∀ x ∈ s, (x.1.length ≤ maxLen ∧ x.2.1.length ≤ maxLen) ∧ x.2.2.1 < 18446744073709551616 ∧ x.2.2.2 < 18446744073709551616)
    (hA : Row w A (qcells k.wait)) (hI : Row w I (hcells k.heads)) (hB : Books w B ps) (hS : Row w Q (qcells s)) (hZ : Row w Z (icells zs)) :
    Calls Try.prog 3 #[.agg #[.int .i64 k.most, .slice A k.wait.length c, .int .i64 k.batch, .int .i64 k.every, .int .i64 k.now, .slice I k.heads.length d, .slice B ps.length e], .slice Q s.length cq, .slice Z zs.length cz] w fun e w' => e = .returned (.bool true) ∧ Below w.heap.size w w' := by
  unfold maxLen at hs1
  have hJ := fun w => Lib.hid (clerks w)
  have hCk := fun (w : World) h1 h2 h3 => Lib.hid (clerkCheckG k A I B c d e ps hps w hg h1 h2 h3)
  have hb0 := balloc (Below.refl w.heap.size w) (.cells #[.int .i64 k.most, .slice A k.wait.length c, .int .i64 k.batch, .int .i64 k.every, .int .i64 k.now, .slice I k.heads.length d, .slice B ps.length e] 28)
  have x0 := Bx.new w _ rfl _ [.int .i64 k.most, .slice A k.wait.length c, .int .i64 k.batch, .int .i64 k.every, .int .i64 k.now, .slice I k.heads.length d, .slice B ps.length e] 28 rfl
  have HSM := Lib.hid (ck_small hg ps hps)
  have HPL := Lib.hid (ck_small hg ps hps).b
  have HPS := Lib.hid hps
  have HL := Lib.hid hs
  have HG := Lib.hid hg
  have HCAP := Lib.hid hcap
  clear hps hs hg hcap
  go_enter Try.func3, Try.ntmps3
  go_wp2_with fail
  refine (hJ _).out.mono ?_
  rintro xx w1 ⟨rfl, hb1⟩
  have hb01 := below_chain hb0 hb1
  have x1 := x0.below hb1
  obtain ⟨a0, a1, a2, a3, a4, a5, a6⟩ := x1.get7
  go_wp2_with fail
  refine (hCk _ (hA.below hb01) (hI.below hb01) (hB.below hb01)).out.mono ?_
  rintro xx w2 ⟨rfl, hb2⟩
  have hb23 := balloc hb2 (.cells #[.int .i64 k.most, .slice A k.wait.length c, .int .i64 k.batch, .int .i64 k.every, .int .i64 k.now, .slice I k.heads.length d, .slice B ps.length e] 28)
  have x3 := x1.below hb23
  have p3 := Bx.new w2 _ rfl _ [.int .i64 k.most, .slice A k.wait.length c, .int .i64 k.batch, .int .i64 k.every, .int .i64 k.now, .slice I k.heads.length d, .slice B ps.length e] 28 rfl
  have hb03 := below_chain hb01 hb23
  have hgx := x1.lt
  have hs2 := hb2.size
  obtain ⟨p8, hp8'⟩ : ∃ p8, w2.heap.size = p8 := ⟨_, rfl⟩
  rw [hp8'] at p3
  have HP8 : Hid (p8 ≠ w.heap.size) := by show _ ≠ _; omega
  have HP8' := Lib.hid hp8'
  have hst0 : ClSt k w.heap.size (w2.alloc (.cells #[.int .i64 k.most, .slice A k.wait.length c, .int .i64 k.batch, .int .i64 k.every, .int .i64 k.now, .slice I k.heads.length d, .slice B ps.length e] 28)) k A I B c d e ps := ⟨HG.out, CkExt.refl k, HPS.out, hA.below hb03, hI.below hb03, hB.below hb03, HCAP.out, x3⟩
  have x2 := x1.below hb2
  obtain ⟨c0, c1, c2, c3, c4, c5, c6⟩ := x2.get7
  clear a0 a1 a2 a3 a4 a5 a6 x0 x1 x2 hCk hJ hb0 hb1 hb01 hb2 hb23 hgx hs2 hp8' x3
  go_upto_region 7 with fail
  try rw [HP8'.out]
  generalize (w2.alloc (.cells #[.int .i64 k.most, .slice A k.wait.length c, .int .i64 k.batch, .int .i64 k.every, .int .i64 k.now, .slice I k.heads.length d, .slice B ps.length e] 28)) = v2 at *
  clear c0 c1 c2 c3 c4 c5 c6
  go_wp2
  go_loopw [31] (fun i wr => ∃ (j : Nat) (k' : Ck) (A' I' B' : Option Addr) (c' d' e' : Nat) (qs : List Bp), j ≤ s.length ∧ i = .int .i64 j ∧ ClSt k w.heap.size wr k' A' I' B' c' d' e' qs ∧ Bx wr p8 [.int .i64 k.most, .slice A k.wait.length c, .int .i64 k.batch, .int .i64 k.every, .int .i64 k.now, .slice I k.heads.length d, .slice B ps.length e] ∧ Below w.heap.size w wr) (fun i _ => s.length - (intOf i).toNat)
  case atStart => exact ⟨0, k, A, I, B, c, d, e, ps, Nat.zero_le _, rfl, hst0, p3, hb03⟩
  case round =>
    clear hst0 p3 hb03
    obtain ⟨j, k', A', I', B', c', d', e', qs, hj, rfl, hst, hp8, hbw⟩ := hrel
    by_cases hlt : j < s.length
    · obtain ⟨g, off, rfl, t0, t1, t2, t3⟩ := (hS.below hbw).ask j hlt
      have hx := HL.out _ (List.getElem_mem hlt)
      have i0 : (0 : Int) ≤ (j : Int) := by omega
      have i1 : (j : Int) < (s.length : Int) := by omega
      generalize s[j].1 = na at *
      generalize s[j].2.1 = va at *
      generalize s[j].2.2.1 = nu at *
      generalize s[j].2.2.2 = tg at *
      by_cases h20 : 20 ≤ j
      · have c20 : decide ((20 : Int) ≤ (j : Int)) = true := decide_eq_true (by omega)
        have c20' : decide (20 ≤ j) = true := decide_eq_true h20
        have hbA := balloc (Below.refl wr.heap.size wr) (.cells #[.string (S na), .string (S va), .int .u64 (nu : Int), .int .u64 (tg : Int)] 35)
        replace hst := hst.below hbA
        replace hp8 := hp8.below hbA
        replace hbw := below_chain hbw hbA
        clear hbA
        go_upto_region 23 with fail
        generalize (wr.alloc (.cells #[.string (S na), .string (S va), .int .u64 (nu : Int), .int .u64 (tg : Int)] 35)) = w0 at *
        clear t0 t1 t2 t3 hx i0 i1 c20 c20' h20 hlt hj
        have hsm := hst.small
        have hwas := hst.ext.hl
        have hcap := hst.cap
        have hq40 := hsm.h
        have hCk2 := fun (w : World) h1 h2 h3 => Lib.hid (clerkCheckG k' A' I' B' c' d' e' qs hst.bk w hst.good h1 h2 h3)
        have hEqH := fun (w : World) h1 h2 => Lib.hid (eqHeads I' I d' d (k'.heads.take k.heads.length) k.heads w (by rw [hst.ext.h]; unfold maxLen; omega) true (by rw [hst.ext.h]; exact decide_eq_true rfl) h1 h2)
        rw [show (k'.heads.take k.heads.length).length = k.heads.length by rw [List.length_take]; omega] at hEqH
        have j0 : (0 : Int) ≤ (k.heads.length : Int) := by omega
        have j1 : (k.heads.length : Int) ≤ (d' : Int) := by omega
        have j2 : k.heads.length ≤ d' := by omega
        have j3 : decide ((k'.heads.length : Int) < (k.heads.length : Int)) = false := decide_eq_false (by omega)
        have j4 : decide (k'.heads.length < k.heads.length) = false := decide_eq_false (by omega)
        obtain ⟨a0, a1, a2, a3, a4, a5, a6⟩ := hst.bx.get7
        have q5 := hp8.get7.2.2.2.2.2.1
        clear hq40 hcap
        refine wp_region_held_drew (S := fun W => W.cell? ⟨w.heap.size, 0, none⟩ = some (.int .i64 k'.most) ∧ W.cell? ⟨w.heap.size, 1, none⟩ = some (.slice A' k'.wait.length c') ∧ W.cell? ⟨w.heap.size, 2, none⟩ = some (.int .i64 k'.batch) ∧ W.cell? ⟨w.heap.size, 3, none⟩ = some (.int .i64 k'.every) ∧ W.cell? ⟨w.heap.size, 4, none⟩ = some (.int .i64 k'.now) ∧ W.cell? ⟨w.heap.size, 5, none⟩ = some (.slice I' k'.heads.length d') ∧ W.cell? ⟨w.heap.size, 6, none⟩ = some (.slice B' qs.length e') ∧ W.cell? ⟨p8, 5, none⟩ = some (.slice I k.heads.length d)) (by kernel_rfl) ⟨a0, a1, a2, a3, a4, a5, a6, q5⟩ (fun hHeld => ?_)
        refine wpAnyH_take (i := 0) (v := ?_) rfl (by kernel_rfl) (by kernel_rfl) (by kernel_rfl) (fun _ _ _ h => h) (Or.inl ⟨by rfl, ?_⟩) (by assumption) ?_
        rotate_left
        · intro wt hSt
          try dsimp only at hSt
          first | (go_simp; done) | (go_simp; with_reducible rfl)
        simp only [Act.put, List.setIfInBounds_toArray, List.set_cons_zero, List.set_cons_succ, List.getElem_toArray, List.getElem_cons_zero]
        refine wpAnyH_ready (rs := [1]) (by kernel_rfl) (by simp) ?_
        refine AllReadyH.cons rfl (fun K hK => ?_) AllReadyH.nil
        go_simp
        go_at_call 7
        refine (hCk2 _ (hst.ra.drewN 1) (hst.ri.drewN 1) (hst.rb.below (bdrew (Below.refl _ _)))).out.mono ?_
        rintro xx v1 ⟨rfl, hv1'⟩
        have hv1 : Below w0.heap.size w0 v1 := below_chain (bdrew (Below.refl _ _)) hv1'
        have hst1 := hst.below hv1
        have hp81 := hp8.below hv1
        go_wp2_with fail
        refine hK.out _ _ ⟨hst1.bx.get7.1, hst1.bx.get7.2.1, hst1.bx.get7.2.2.1, hst1.bx.get7.2.2.2.1, hst1.bx.get7.2.2.2.2.1, hst1.bx.get7.2.2.2.2.2.1, hst1.bx.get7.2.2.2.2.2.2, hp81.get7.2.2.2.2.2.1⟩ (fun hHeld => ?_)
        clear hK K
        refine wpAnyH_take (i := 2) (v := ?_) rfl (by kernel_rfl) (by kernel_rfl) (by kernel_rfl) (fun _ _ _ h => h) (Or.inl ⟨by rfl, ?_⟩) (by assumption) ?_
        rotate_left
        · intro wt hSt
          try dsimp only at hSt
          first | (go_simp; done) | (go_simp; with_reducible rfl)
        simp only [Act.put, List.setIfInBounds_toArray, List.set_cons_zero, List.set_cons_succ, List.getElem_toArray, List.getElem_cons_zero, List.getElem_cons_succ]
        refine wpAnyH_take (i := 3) (v := ?_) rfl (by kernel_rfl) (by kernel_rfl) (by kernel_rfl) (fun _ _ _ h => h) (Or.inl ⟨by rfl, ?_⟩) (by assumption) ?_
        rotate_left
        · intro wt hSt
          try dsimp only at hSt
          first | (go_simp; done) | (go_simp; with_reducible rfl)
        simp only [Act.put, List.setIfInBounds_toArray, List.set_cons_zero, List.set_cons_succ, List.getElem_toArray, List.getElem_cons_zero, List.getElem_cons_succ]
        refine wpAnyH_take (i := 4) (v := ?_) rfl (by kernel_rfl) (by kernel_rfl) (by kernel_rfl) (fun _ _ _ h => h) (Or.inl ⟨by rfl, ?_⟩) (by assumption) ?_
        rotate_left
        · intro wt hSt
          try dsimp only at hSt
          first | (go_simp; done) | (go_simp; with_reducible rfl)
        simp only [Act.put, List.setIfInBounds_toArray, List.set_cons_zero, List.set_cons_succ, List.getElem_toArray, List.getElem_cons_zero, List.getElem_cons_succ]
        refine wpAnyH_take (i := 5) (v := ?_) rfl (by kernel_rfl) (by kernel_rfl) (by kernel_rfl) (fun _ _ _ h => h) (Or.inl ⟨by rfl, ?_⟩) (by assumption) ?_
        rotate_left
        · intro wt hSt
          try dsimp only at hSt
          first | (go_simp; done) | (go_simp; with_reducible rfl)
        simp only [Act.put, List.setIfInBounds_toArray, List.set_cons_zero, List.set_cons_succ, List.getElem_toArray, List.getElem_cons_zero, List.getElem_cons_succ]
        refine wpAnyH_take (i := 6) (v := ?_) rfl (by kernel_rfl) (by kernel_rfl) (by kernel_rfl) (fun _ _ _ h => h) (Or.inl ⟨by rfl, ?_⟩) (by assumption) ?_
        rotate_left
        · intro wt hSt
          try dsimp only at hSt
          first | (go_simp; done) | (go_simp; with_reducible rfl)
        simp only [Act.put, List.setIfInBounds_toArray, List.set_cons_zero, List.set_cons_succ, List.getElem_toArray, List.getElem_cons_zero, List.getElem_cons_succ]
        refine wpAnyH_take (i := 7) (v := ?_) rfl (by kernel_rfl) (by kernel_rfl) (by kernel_rfl) (fun _ _ _ h => h) (Or.inl ⟨by rfl, ?_⟩) (by assumption) ?_
        rotate_left
        · intro wt hSt
          try dsimp only at hSt
          first | (go_simp; done) | (go_simp; with_reducible rfl)
        simp only [Act.put, List.setIfInBounds_toArray, List.set_cons_zero, List.set_cons_succ, List.getElem_toArray, List.getElem_cons_zero, List.getElem_cons_succ]
        refine wpAnyH_take (i := 8) (v := ?_) rfl (by kernel_rfl) (by kernel_rfl) (by kernel_rfl) (fun _ _ _ h => h) (Or.inl ⟨by rfl, ?_⟩) (by assumption) ?_
        rotate_left
        · intro wt hSt
          try dsimp only at hSt
          first | (go_simp; done) | (go_simp; with_reducible rfl)
        simp only [Act.put, List.setIfInBounds_toArray, List.set_cons_zero, List.set_cons_succ, List.getElem_toArray, List.getElem_cons_zero, List.getElem_cons_succ]
        refine wpAnyH_take (i := 9) (v := ?_) rfl (by kernel_rfl) (by kernel_rfl) (by kernel_rfl) (fun _ _ _ h => h) (Or.inl ⟨by rfl, ?_⟩) (by assumption) ?_
        rotate_left
        · intro wt hSt
          try dsimp only at hSt
          first | (go_simp; done) | (go_simp; with_reducible rfl)
        simp only [Act.put, List.setIfInBounds_toArray, List.set_cons_zero, List.set_cons_succ, List.getElem_toArray, List.getElem_cons_zero, List.getElem_cons_succ]
        refine wpAnyH_take (i := 10) (v := ?_) rfl (by kernel_rfl) (by kernel_rfl) (by kernel_rfl) (fun _ _ _ h => h) (Or.inl ⟨by rfl, ?_⟩) (by assumption) ?_
        rotate_left
        · intro wt hSt
          try dsimp only at hSt
          first | (go_simp; done) | (go_simp; with_reducible rfl)
        simp only [Act.put, List.setIfInBounds_toArray, List.set_cons_zero, List.set_cons_succ, List.getElem_toArray, List.getElem_cons_zero, List.getElem_cons_succ]
        refine wpAnyH_take (i := 11) (v := ?_) rfl (by kernel_rfl) (by kernel_rfl) (by kernel_rfl) (fun _ _ _ h => h) (Or.inl ⟨by rfl, ?_⟩) (by assumption) ?_
        rotate_left
        · intro wt hSt
          try dsimp only at hSt
          first | (go_simp; done) | (go_simp; with_reducible rfl)
        simp only [Act.put, List.setIfInBounds_toArray, List.set_cons_zero, List.set_cons_succ, List.getElem_toArray, List.getElem_cons_zero, List.getElem_cons_succ]
        refine wpAnyH_take (i := 12) (v := ?_) rfl (by kernel_rfl) (by kernel_rfl) (by kernel_rfl) (fun _ _ _ h => h) (Or.inl ⟨by rfl, ?_⟩) (by assumption) ?_
        rotate_left
        · intro wt hSt
          try dsimp only at hSt
          first | (go_simp; done) | (go_simp; with_reducible rfl)
        simp only [Act.put, List.setIfInBounds_toArray, List.set_cons_zero, List.set_cons_succ, List.getElem_toArray, List.getElem_cons_zero, List.getElem_cons_succ]
        refine wpAnyH_take (i := 13) (v := ?_) rfl (by kernel_rfl) (by kernel_rfl) (by kernel_rfl) (fun _ _ _ h => h) (Or.inl ⟨by rfl, ?_⟩) (by assumption) ?_
        rotate_left
        · intro wt hSt
          try dsimp only at hSt
          first | (go_simp; done) | (go_simp; with_reducible rfl)
        simp only [Act.put, List.setIfInBounds_toArray, List.set_cons_zero, List.set_cons_succ, List.getElem_toArray, List.getElem_cons_zero, List.getElem_cons_succ]
        refine wpAnyH_take (i := 14) (v := ?_) rfl (by kernel_rfl) (by kernel_rfl) (by kernel_rfl) (fun _ _ _ h => h) (Or.inl ⟨by rfl, ?_⟩) (by assumption) ?_
        rotate_left
        · intro wt hSt
          try dsimp only at hSt
          first | (go_simp; done) | (go_simp; with_reducible rfl)
        simp only [Act.put, List.setIfInBounds_toArray, List.set_cons_zero, List.set_cons_succ, List.getElem_toArray, List.getElem_cons_zero, List.getElem_cons_succ]
        refine wpAnyH_take (i := 15) (v := ?_) rfl (by kernel_rfl) (by kernel_rfl) (by kernel_rfl) (fun _ _ _ h => h) (Or.inl ⟨by rfl, ?_⟩) (by assumption) ?_
        rotate_left
        · intro wt hSt
          try dsimp only at hSt
          first | (go_simp; done) | (go_simp; with_reducible rfl)
        simp only [Act.put, List.setIfInBounds_toArray, List.set_cons_zero, List.set_cons_succ, List.getElem_toArray, List.getElem_cons_zero, List.getElem_cons_succ]
        refine wpAnyH_take (i := 16) (v := ?_) rfl (by kernel_rfl) (by kernel_rfl) (by kernel_rfl) (fun _ _ _ h => h) (Or.inl ⟨by rfl, ?_⟩) (by assumption) ?_
        rotate_left
        · intro wt hSt
          try dsimp only at hSt
          first | (go_simp; done) | (go_simp; with_reducible rfl)
        simp only [Act.put, List.setIfInBounds_toArray, List.set_cons_zero, List.set_cons_succ, List.getElem_toArray, List.getElem_cons_zero, List.getElem_cons_succ]
        refine wpAnyH_ready (rs := [17]) (by kernel_rfl) (by simp) ?_
        refine AllReadyH.cons rfl (fun K hK => ?_) AllReadyH.nil
        go_simp
        go_at_call 10
        refine (hEqH _ (hst1.ri.takeH _) (hI.below (below_chain hbw hv1))).out.mono ?_
        rintro xx v2 ⟨rfl, m2, rfl⟩
        go_wp2_with fail
        refine hK.out _ _ ⟨hst1.bx.get7.1, hst1.bx.get7.2.1, hst1.bx.get7.2.2.1, hst1.bx.get7.2.2.2.1, hst1.bx.get7.2.2.2.2.1, hst1.bx.get7.2.2.2.2.2.1, hst1.bx.get7.2.2.2.2.2.2, hp81.get7.2.2.2.2.2.1⟩ (fun hHeld => ?_)
        clear hK K
        refine wpAnyH_take (i := 18) (v := ?_) rfl (by kernel_rfl) (by kernel_rfl) (by kernel_rfl) (fun _ _ _ h => h) (Or.inl ⟨by rfl, ?_⟩) (by assumption) ?_
        rotate_left
        · intro wt hSt
          try dsimp only at hSt
          first | (go_simp; done) | (go_simp; with_reducible rfl)
        simp only [Act.put, List.setIfInBounds_toArray, List.set_cons_zero, List.set_cons_succ, List.getElem_toArray, List.getElem_cons_zero, List.getElem_cons_succ]
        refine wpAnyH_take (i := 19) (v := ?_) rfl (by kernel_rfl) (by kernel_rfl) (by kernel_rfl) (fun _ _ _ h => h) (Or.inl ⟨by rfl, ?_⟩) (by assumption) ?_
        rotate_left
        · intro wt hSt
          try dsimp only at hSt
          first | (go_simp; done) | (go_simp; with_reducible rfl)
        simp only [Act.put, List.setIfInBounds_toArray, List.set_cons_zero, List.set_cons_succ, List.getElem_toArray, List.getElem_cons_zero, List.getElem_cons_succ]
        refine wpAnyH_done (by kernel_rfl) ?_ _
        have hst2 := hst1.below (below_of_drewN _ _ m2)
        have hp82 := hp81.below (below_of_drewN _ _ m2)
        have hbw2 := below_chain hbw (below_chain hv1 (below_of_drewN _ _ m2))
        have hBKS := Lib.hid (hst.ext.b)
        have hBKL := Lib.hid (hst.ext.bl)
        clear hst hp8 hbw hst1 hp81 hv1 hv1' a0 a1 a2 a3 a4 a5 a6 q5 hCk2 hEqH j0 j1 j2 j3 j4 hwas hHeld
        go_wp2
        generalize v1.drewN m2 = v3 at *
        go_loopw [92] (fun i wr => ∃ j : Nat, j ≤ k.heads.length ∧ i = .int .i64 j ∧ Below v3.heap.size v3 wr) (fun i _ => k.heads.length - (intOf i).toNat)
        case atStart => exact ⟨0, Nat.zero_le _, rfl, Below.refl _ _⟩
        case round =>
          obtain ⟨j, hj, rfl, hbl⟩ := hrel
          have hst3 := hst2.below hbl
          have hp83 := hp82.below hbl
          have hbw3 := below_chain hbw2 hbl
          clear hst2 hp82 hbw2
          have hk40 := HSM.out.h
          by_cases hlt : j < k.heads.length
          · have hjp : j < ps.length := by have := HPL.out; omega
            have hjk : j < k.books.length := by rw [← HPS.out, bks_length]; exact hjp
            have hjk' : j < k'.books.length := by have := hBKL.out; omega
            have hbj : k'.books[j] = ps[j].2.2 := by
              have h1 : k'.books[j] = (k'.books.take k.books.length)[j]'(by rw [List.length_take]; omega) := by rw [List.getElem_take]
              rw [h1]
              have h2 := hBKS.out
              have h3 : (k'.books.take k.books.length)[j]'(by rw [List.length_take]; omega) = k.books[j] := by congr 1
              rw [h3, ← bks_get ps j hjp]
              congr 1
              exact HPS.out.symm
            obtain ⟨gB, oB, rfl, jB, rB⟩ := (hB.below hbw3).get j hjp
            have hpe := (HSM.out.e _ (List.getElem_mem hjp)).1
            generalize ps[j].2.2 = T at *
            generalize ps[j].1 = P1 at *
            generalize ps[j].2.1 = P2 at *
            have hBk := fun (w : World) h1 h2 h3 => Lib.hid (clerkBookG k' A' I' B' c' d' e' qs hst3.bk j hjk' w hst3.good h1 h2 h3 T hbj)
            have hEq := fun (w : World) (D : Option Addr) (dd : Nat) h1 h2 => Lib.hid (eqEnts D P1 dd P2 T T w (by unfold maxLen; omega) true (decide_eq_true rfl) h1 h2)
            have i0 : (0 : Int) ≤ (j : Int) := by omega
            have i1 : (j : Int) < (ps.length : Int) := by omega
            have i2 : (j : Int) < (k.heads.length : Int) := by omega
            obtain ⟨a0, a1, a2, a3, a4, a5, a6⟩ := hst3.bx.get7
            have q6 := hp83.get7.2.2.2.2.2.2
            clear hbj hpe hjp hjk hjk'
            go_wp2_with fail
            refine (hBk _ hst3.ra hst3.ri hst3.rb).out.mono ?_
            rintro xx v4 ⟨D, dd, rfl, hown4, hb4⟩
            have q64 := kept q6 hb4
            have jB4 := kept jB hb4
            have rB4 := rB.below hb4
            clear a0 a1 a2 a3 a4 a5 a6 q6 jB rB hBk
            go_wp2_with fail
            refine (hEq _ D dd (Row.ownN hown4) rB4).out.mono ?_
            rintro xx v5 ⟨rfl, m5, rfl⟩
            go_wp2
            go_roundw
            case rel => exact ⟨j + 1, by omega, by go_num, below_chain hbl (below_chain hb4 (below_of_drewN _ _ _))⟩
            case measure => simp [intOf]; omega
          · have : j = k.heads.length := by omega
            subst this
            go_wp2
            go_ret
            exact ⟨rfl, hbw3⟩
      · have c20 : decide ((20 : Int) ≤ (j : Int)) = false := decide_eq_false (by omega)
        have c20' : decide (20 ≤ j) = false := decide_eq_false h20
        obtain ⟨r, hr⟩ : ∃ r, ckAskErr k' na va = r := ⟨_, rfl⟩
        have hbA := balloc (Below.refl wr.heap.size wr) (.cells #[.string (S na), .string (S va), .int .u64 (nu : Int), .int .u64 (tg : Int)] 35)
        have y0 := Bx.new wr _ rfl _ [.string (S na), .string (S va), .int .u64 (nu : Int), .int .u64 (tg : Int)] 35 rfl
        replace hst := hst.below hbA
        replace hp8 := hp8.below hbA
        replace hbw := below_chain hbw hbA
        obtain ⟨a0, a1, a2, a3, a4, a5, a6⟩ := hst.bx.get7
        obtain ⟨⟨y1, y2, y3, y4⟩, _⟩ := y0.get4
        clear hbA y0
        by_cases h0 : r = 0
        case neg =>
          have c0 : (r == 0) = false := beq_eq_false_iff_ne.2 h0
          have hAk := fun (w : World) h1 h2 h3 => Lib.hid (clerkAskG_no k' A' I' B' c' d' e' qs hst.bk na va nu tg w hx.1.1 hx.1.2 hst.good h1 h2 h3 r hr h0)
          clear hr h0
          go_wp2_with fail
          refine (hAk _ hst.ra hst.ri hst.rb).out.mono ?_
          rintro xx w3 ⟨rfl, hb3⟩
          have hb34 := balloc hb3 (.cells #[.int .i64 0, .slice none 0 0, .int .i64 0, .int .i64 0, .int .i64 0, .slice none 0 0, .slice none 0 0] 28)
          replace hst := hst.below hb34
          replace hp8 := hp8.below hb34
          replace hbw := below_chain hbw hb34
          clear a0 a1 a2 a3 a4 a5 a6 y1 y2 y3 y4 t0 t1 t2 t3 hb3 hb34 hAk
          go_upto_region 14 with fail
          generalize (w3.alloc (.cells #[.int .i64 0, .slice none 0 0, .int .i64 0, .int .i64 0, .int .i64 0, .slice none 0 0, .slice none 0 0] 28)) = w0 at *
          clear c0 hx h20 c20 c20'
          by_cases hjz : j < zs.length
          · obtain ⟨gZ, oZ, rfl, jZ⟩ := (hZ.below hbw).int j hjz
            obtain ⟨mx, hmx⟩ : ∃ mx : Nat, max zs[j] 0 = (mx : Int) := ⟨(max zs[j] 0).toNat, by omega⟩
            obtain ⟨nb, hnb⟩ : ∃ nb : Nat, min (mx : Int) 5 = (nb : Int) := ⟨(min (mx : Int) 5).toNat, by omega⟩
            generalize zs[j] = z at *
            have z0 : (j : Int) < (zs.length : Int) := by omega
            have z1 : (0 : Int) ≤ (j : Int) := by omega
            go_wp2
            go_loopw [58] (fun i wr => ∃ (j : Nat) (k' : Ck) (A' I' B' : Option Addr) (c' d' e' : Nat) (qs : List Bp), j ≤ nb ∧ i = .int .i64 j ∧ ClSt k w.heap.size wr k' A' I' B' c' d' e' qs ∧ Bx wr p8 [.int .i64 k.most, .slice A k.wait.length c, .int .i64 k.batch, .int .i64 k.every, .int .i64 k.now, .slice I k.heads.length d, .slice B ps.length e] ∧ Below w.heap.size w wr) (fun i _ => nb - (intOf i).toNat)
            case atStart => exact ⟨0, k', A', I', B', c', d', e', qs, Nat.zero_le _, rfl, hst, hp8, hbw⟩
            case round =>
              clear hst hp8 hbw
              obtain ⟨m, k', A', I', B', c', d', e', qs, hm, rfl, hst, hp8, hbw⟩ := hrel
              by_cases hmb : m < nb
              · have n1 : (m : Int) < (nb : Int) := by omega
                obtain ⟨⟨k2, b2⟩, hk2⟩ : ∃ u, ckTick k' = u := ⟨_, rfl⟩
                have HG2 : Hid (CkGood k2) := by show CkGood _; have := ckTick_good hst.good; rw [hk2] at this; exact this
                have HE2 : Hid (CkExt k k2) := by show CkExt _ _; have := hst.ext.tick; rw [hk2] at this; exact this
                have hTk := fun (w : World) h1 h2 h3 => Lib.hid (clerkTickG k' A' I' B' c' d' e' qs hst.bk w hst.good h1 h2 h3 k2 b2 hk2)
                obtain ⟨a0, a1, a2, a3, a4, a5, a6⟩ := hst.bx.get7
                have hgl := hst.bx.lt
                clear hk2
                go_wp2_with fail
                refine (hTk _ hst.ra hst.ri hst.rb).out.mono ?_
                rintro xx w3 ⟨D2, d2, E2, f2, F2, h2, qz, rfl, hqz, hO3, hb3⟩
                have hb34 := balloc hb3 (.cells #[.int .i64 k2.most, .slice D2 k2.wait.length d2, .int .i64 k2.batch, .int .i64 k2.every, .int .i64 k2.now, .slice E2 k2.heads.length f2, .slice F2 qz.length h2] 28)
                have x4 := hst.bx.below hb34
                have hp84 := hp8.below hb34
                have y4 := Bx.new w3 _ rfl _ [.int .i64 k2.most, .slice D2 k2.wait.length d2, .int .i64 k2.batch, .int .i64 k2.every, .int .i64 k2.now, .slice E2 k2.heads.length f2, .slice F2 qz.length h2] 28 rfl
                have hO4 := hO3.below (balloc (Below.refl _ _) (.cells #[.int .i64 k2.most, .slice D2 k2.wait.length d2, .int .i64 k2.batch, .int .i64 k2.every, .int .i64 k2.now, .slice E2 k2.heads.length f2, .slice F2 qz.length h2] 28))
                have hb4 := below_chain hbw hb34
                have hpg := HP8.out
                clear a0 a1 a2 a3 a4 a5 a6 hTk hO3 hb3 hb34 hst hp8 hbw
                have x9 : Bx ((((((((w3.alloc (.cells #[.int .i64 k2.most, .slice D2 k2.wait.length d2, .int .i64 k2.batch, .int .i64 k2.every, .int .i64 k2.now, .slice E2 k2.heads.length f2, .slice F2 qz.length h2] 28)).setCell ⟨w.heap.size, 0, none⟩ (.int .i64 k2.most)).setCell ⟨w.heap.size, 1, none⟩ (.slice D2 k2.wait.length d2)).setCell ⟨w.heap.size, 2, none⟩ (.int .i64 k2.batch)).setCell ⟨w.heap.size, 3, none⟩ (.int .i64 k2.every)).setCell ⟨w.heap.size, 4, none⟩ (.int .i64 k2.now)).setCell ⟨w.heap.size, 5, none⟩ (.slice E2 k2.heads.length f2)).setCell ⟨w.heap.size, 6, none⟩ (.slice F2 qz.length h2)) (w.heap.size) [.int .i64 k2.most, .slice D2 k2.wait.length d2, .int .i64 k2.batch, .int .i64 k2.every, .int .i64 k2.now, .slice E2 k2.heads.length f2, .slice F2 qz.length h2] := (((((((x4.set 0 (.int .i64 k2.most)).set 1 (.slice D2 k2.wait.length d2)).set 2 (.int .i64 k2.batch)).set 3 (.int .i64 k2.every)).set 4 (.int .i64 k2.now)).set 5 (.slice E2 k2.heads.length f2)).set 6 (.slice F2 qz.length h2))
                have hp89 := (((((((hp84.far (h := w.heap.size) (by omega) 0 (.int .i64 k2.most)).far (h := w.heap.size) (by omega) 1 (.slice D2 k2.wait.length d2)).far (h := w.heap.size) (by omega) 2 (.int .i64 k2.batch)).far (h := w.heap.size) (by omega) 3 (.int .i64 k2.every)).far (h := w.heap.size) (by omega) 4 (.int .i64 k2.now)).far (h := w.heap.size) (by omega) 5 (.slice E2 k2.heads.length f2)).far (h := w.heap.size) (by omega) 6 (.slice F2 qz.length h2))
                have hO9 := (((((((hO4.set (g := w.heap.size) (by omega) 0 (.int .i64 k2.most)).set (g := w.heap.size) (by omega) 1 (.slice D2 k2.wait.length d2)).set (g := w.heap.size) (by omega) 2 (.int .i64 k2.batch)).set (g := w.heap.size) (by omega) 3 (.int .i64 k2.every)).set (g := w.heap.size) (by omega) 4 (.int .i64 k2.now)).set (g := w.heap.size) (by omega) 5 (.slice E2 k2.heads.length f2)).set (g := w.heap.size) (by omega) 6 (.slice F2 qz.length h2))
                have hb9 := (((((((hb4.setCell (p := ⟨w.heap.size, 0, none⟩) (by show w.heap.size ≤ w.heap.size; omega) (.int .i64 k2.most)).setCell (p := ⟨w.heap.size, 1, none⟩) (by show w.heap.size ≤ w.heap.size; omega) (.slice D2 k2.wait.length d2)).setCell (p := ⟨w.heap.size, 2, none⟩) (by show w.heap.size ≤ w.heap.size; omega) (.int .i64 k2.batch)).setCell (p := ⟨w.heap.size, 3, none⟩) (by show w.heap.size ≤ w.heap.size; omega) (.int .i64 k2.every)).setCell (p := ⟨w.heap.size, 4, none⟩) (by show w.heap.size ≤ w.heap.size; omega) (.int .i64 k2.now)).setCell (p := ⟨w.heap.size, 5, none⟩) (by show w.heap.size ≤ w.heap.size; omega) (.slice E2 k2.heads.length f2)).setCell (p := ⟨w.heap.size, 6, none⟩) (by show w.heap.size ≤ w.heap.size; omega) (.slice F2 qz.length h2))
                have HQZ := Lib.hid hqz
                obtain ⟨a0, a1, a2, a3, a4, a5, a6⟩ := y4.get7
                obtain ⟨b0, b1, b2', b3, b4, b5, b6⟩ := x4.get7
                have f0 := x4.f 0 (by simp)
                have f1 := x4.f 1 (by simp)
                have f2' := x4.f 2 (by simp)
                have f3 := x4.f 3 (by simp)
                have f4 := x4.f 4 (by simp)
                have f5 := x4.f 5 (by simp)
                have f6 := x4.f 6 (by simp)
                clear x4 hp84 y4 hO4 hb4 hqz hgl
                go_upto_region 21 with fail
                generalize ((((((((w3.alloc (.cells #[.int .i64 k2.most, .slice D2 k2.wait.length d2, .int .i64 k2.batch, .int .i64 k2.every, .int .i64 k2.now, .slice E2 k2.heads.length f2, .slice F2 qz.length h2] 28)).setCell ⟨w.heap.size, 0, none⟩ (.int .i64 k2.most)).setCell ⟨w.heap.size, 1, none⟩ (.slice D2 k2.wait.length d2)).setCell ⟨w.heap.size, 2, none⟩ (.int .i64 k2.batch)).setCell ⟨w.heap.size, 3, none⟩ (.int .i64 k2.every)).setCell ⟨w.heap.size, 4, none⟩ (.int .i64 k2.now)).setCell ⟨w.heap.size, 5, none⟩ (.slice E2 k2.heads.length f2)).setCell ⟨w.heap.size, 6, none⟩ (.slice F2 qz.length h2)) = w9 at *
                clear a0 a1 a2 a3 a4 a5 a6 b0 b1 b2' b3 b4 b5 b6 f0 f1 f2' f3 f4 f5 f6 hpg
                go_wp2
                go_roundw
                case rel => exact ⟨m + 1, k2, D2, E2, F2, d2, f2, h2, qz, by omega, by go_num, ClSt.of HG2.out HE2.out HQZ.out hO9 x9, hp89, hb9⟩
                case measure => simp [intOf]; omega
              · have n1 : ¬ (m : Int) < (nb : Int) := by omega
                go_wp2
                go_roundw
                case rel => exact ⟨j + 1, k', A', I', B', c', d', e', qs, by omega, by go_num, hst, hp8, hbw⟩
                case measure => simp [intOf]; omega
          · have z0 : ¬ (j : Int) < (zs.length : Int) := by omega
            go_wp2
            go_roundw
            case rel => exact ⟨j + 1, k', A', I', B', c', d', e', qs, by omega, by go_num, hst, hp8, hbw⟩
            case measure => simp [intOf]; omega
        case pos =>
          subst h0
          obtain ⟨k2, hk2⟩ : ∃ k2, ckAsked k' (na, va, nu, tg) = k2 := ⟨_, rfl⟩
          have HG2 : Hid (CkGood k2) := by show CkGood _; rw [← hk2]; exact ckAsked_good hst.good hr
          have HE2 : Hid (CkExt k k2) := by show CkExt _ _; rw [← hk2]; exact hst.ext.asked _
          obtain ⟨due, hdue⟩ : ∃ due, dueOf k' = due := ⟨_, rfl⟩
          have hAk := fun (w : World) h1 h2 h3 => Lib.hid (clerkAskG_ok k' A' I' B' c' d' e' qs hst.bk na va nu tg w hx.1.1 hx.1.2 hst.good h1 h2 h3 hr k2 hk2 due hdue)
          have hgl := hst.bx.lt
          clear hr hk2 hdue
          go_wp2_with fail
          refine (hAk _ hst.ra hst.ri hst.rb).out.mono ?_
          rintro xx w3 ⟨D2, d2, E2, f2, F2, h2, qz, rfl, hqz, hO3, hb3⟩
          have hb34 := balloc hb3 (.cells #[.int .i64 k2.most, .slice D2 k2.wait.length d2, .int .i64 k2.batch, .int .i64 k2.every, .int .i64 k2.now, .slice E2 k2.heads.length f2, .slice F2 qz.length h2] 28)
          have x4 := hst.bx.below hb34
          have hp84 := hp8.below hb34
          have u4 := Bx.new w3 _ rfl _ [.int .i64 k2.most, .slice D2 k2.wait.length d2, .int .i64 k2.batch, .int .i64 k2.every, .int .i64 k2.now, .slice E2 k2.heads.length f2, .slice F2 qz.length h2] 28 rfl
          have hO4 := hO3.below (balloc (Below.refl _ _) (.cells #[.int .i64 k2.most, .slice D2 k2.wait.length d2, .int .i64 k2.batch, .int .i64 k2.every, .int .i64 k2.now, .slice E2 k2.heads.length f2, .slice F2 qz.length h2] 28))
          have hb4 := below_chain hbw hb34
          have hpg := HP8.out
          clear a0 a1 a2 a3 a4 a5 a6 y1 y2 y3 y4 t0 t1 t2 t3 hAk hO3 hb3 hb34 hst hp8 hbw
          have x9 : Bx ((((((((w3.alloc (.cells #[.int .i64 k2.most, .slice D2 k2.wait.length d2, .int .i64 k2.batch, .int .i64 k2.every, .int .i64 k2.now, .slice E2 k2.heads.length f2, .slice F2 qz.length h2] 28)).setCell ⟨w.heap.size, 0, none⟩ (.int .i64 k2.most)).setCell ⟨w.heap.size, 1, none⟩ (.slice D2 k2.wait.length d2)).setCell ⟨w.heap.size, 2, none⟩ (.int .i64 k2.batch)).setCell ⟨w.heap.size, 3, none⟩ (.int .i64 k2.every)).setCell ⟨w.heap.size, 4, none⟩ (.int .i64 k2.now)).setCell ⟨w.heap.size, 5, none⟩ (.slice E2 k2.heads.length f2)).setCell ⟨w.heap.size, 6, none⟩ (.slice F2 qz.length h2)) (w.heap.size) [.int .i64 k2.most, .slice D2 k2.wait.length d2, .int .i64 k2.batch, .int .i64 k2.every, .int .i64 k2.now, .slice E2 k2.heads.length f2, .slice F2 qz.length h2] := (((((((x4.set 0 (.int .i64 k2.most)).set 1 (.slice D2 k2.wait.length d2)).set 2 (.int .i64 k2.batch)).set 3 (.int .i64 k2.every)).set 4 (.int .i64 k2.now)).set 5 (.slice E2 k2.heads.length f2)).set 6 (.slice F2 qz.length h2))
          have hp89 := (((((((hp84.far (h := w.heap.size) (by omega) 0 (.int .i64 k2.most)).far (h := w.heap.size) (by omega) 1 (.slice D2 k2.wait.length d2)).far (h := w.heap.size) (by omega) 2 (.int .i64 k2.batch)).far (h := w.heap.size) (by omega) 3 (.int .i64 k2.every)).far (h := w.heap.size) (by omega) 4 (.int .i64 k2.now)).far (h := w.heap.size) (by omega) 5 (.slice E2 k2.heads.length f2)).far (h := w.heap.size) (by omega) 6 (.slice F2 qz.length h2))
          have hO9 := (((((((hO4.set (g := w.heap.size) (by omega) 0 (.int .i64 k2.most)).set (g := w.heap.size) (by omega) 1 (.slice D2 k2.wait.length d2)).set (g := w.heap.size) (by omega) 2 (.int .i64 k2.batch)).set (g := w.heap.size) (by omega) 3 (.int .i64 k2.every)).set (g := w.heap.size) (by omega) 4 (.int .i64 k2.now)).set (g := w.heap.size) (by omega) 5 (.slice E2 k2.heads.length f2)).set (g := w.heap.size) (by omega) 6 (.slice F2 qz.length h2))
          have hb9 := (((((((hb4.setCell (p := ⟨w.heap.size, 0, none⟩) (by show w.heap.size ≤ w.heap.size; omega) (.int .i64 k2.most)).setCell (p := ⟨w.heap.size, 1, none⟩) (by show w.heap.size ≤ w.heap.size; omega) (.slice D2 k2.wait.length d2)).setCell (p := ⟨w.heap.size, 2, none⟩) (by show w.heap.size ≤ w.heap.size; omega) (.int .i64 k2.batch)).setCell (p := ⟨w.heap.size, 3, none⟩) (by show w.heap.size ≤ w.heap.size; omega) (.int .i64 k2.every)).setCell (p := ⟨w.heap.size, 4, none⟩) (by show w.heap.size ≤ w.heap.size; omega) (.int .i64 k2.now)).setCell (p := ⟨w.heap.size, 5, none⟩) (by show w.heap.size ≤ w.heap.size; omega) (.slice E2 k2.heads.length f2)).setCell (p := ⟨w.heap.size, 6, none⟩) (by show w.heap.size ≤ w.heap.size; omega) (.slice F2 qz.length h2))
          have HQZ := Lib.hid hqz
          obtain ⟨a0, a1, a2, a3, a4, a5, a6⟩ := u4.get7
          obtain ⟨b0, b1, b2', b3, b4, b5, b6⟩ := x4.get7
          have f0 := x4.f 0 (by simp)
          have f1 := x4.f 1 (by simp)
          have f2' := x4.f 2 (by simp)
          have f3 := x4.f 3 (by simp)
          have f4 := x4.f 4 (by simp)
          have f5 := x4.f 5 (by simp)
          have f6 := x4.f 6 (by simp)
          clear x4 hp84 u4 hO4 hb4 hqz hgl
          go_upto_region 14 with fail
          generalize ((((((((w3.alloc (.cells #[.int .i64 k2.most, .slice D2 k2.wait.length d2, .int .i64 k2.batch, .int .i64 k2.every, .int .i64 k2.now, .slice E2 k2.heads.length f2, .slice F2 qz.length h2] 28)).setCell ⟨w.heap.size, 0, none⟩ (.int .i64 k2.most)).setCell ⟨w.heap.size, 1, none⟩ (.slice D2 k2.wait.length d2)).setCell ⟨w.heap.size, 2, none⟩ (.int .i64 k2.batch)).setCell ⟨w.heap.size, 3, none⟩ (.int .i64 k2.every)).setCell ⟨w.heap.size, 4, none⟩ (.int .i64 k2.now)).setCell ⟨w.heap.size, 5, none⟩ (.slice E2 k2.heads.length f2)).setCell ⟨w.heap.size, 6, none⟩ (.slice F2 qz.length h2)) = w0 at *
          have hst := ClSt.of HG2.out HE2.out HQZ.out hO9 x9
          have hp8 := hp89
          have hbw := hb9
          clear a0 a1 a2 a3 a4 a5 a6 b0 b1 b2' b3 b4 b5 b6 f0 f1 f2' f3 f4 f5 f6 hpg hx h20 c20 c20' HG2 HE2 HQZ hO9 x9 hp89 hb9
          by_cases hjz : j < zs.length
          · obtain ⟨gZ, oZ, rfl, jZ⟩ := (hZ.below hbw).int j hjz
            obtain ⟨mx, hmx⟩ : ∃ mx : Nat, max zs[j] 0 = (mx : Int) := ⟨(max zs[j] 0).toNat, by omega⟩
            obtain ⟨nb, hnb⟩ : ∃ nb : Nat, min (mx : Int) 5 = (nb : Int) := ⟨(min (mx : Int) 5).toNat, by omega⟩
            generalize zs[j] = z at *
            have z0 : (j : Int) < (zs.length : Int) := by omega
            have z1 : (0 : Int) ≤ (j : Int) := by omega
            go_wp2
            go_loopw [58] (fun i wr => ∃ (j : Nat) (k' : Ck) (A' I' B' : Option Addr) (c' d' e' : Nat) (qs : List Bp), j ≤ nb ∧ i = .int .i64 j ∧ ClSt k w.heap.size wr k' A' I' B' c' d' e' qs ∧ Bx wr p8 [.int .i64 k.most, .slice A k.wait.length c, .int .i64 k.batch, .int .i64 k.every, .int .i64 k.now, .slice I k.heads.length d, .slice B ps.length e] ∧ Below w.heap.size w wr) (fun i _ => nb - (intOf i).toNat)
            case atStart => exact ⟨0, k2, D2, E2, F2, d2, f2, h2, qz, Nat.zero_le _, rfl, hst, hp8, hbw⟩
            case round =>
              clear hst hp8 hbw
              obtain ⟨m, k', A', I', B', c', d', e', qs, hm, rfl, hst, hp8, hbw⟩ := hrel
              by_cases hmb : m < nb
              · have n1 : (m : Int) < (nb : Int) := by omega
                obtain ⟨⟨k2, b2⟩, hk2⟩ : ∃ u, ckTick k' = u := ⟨_, rfl⟩
                have HG2 : Hid (CkGood k2) := by show CkGood _; have := ckTick_good hst.good; rw [hk2] at this; exact this
                have HE2 : Hid (CkExt k k2) := by show CkExt _ _; have := hst.ext.tick; rw [hk2] at this; exact this
                have hTk := fun (w : World) h1 h2 h3 => Lib.hid (clerkTickG k' A' I' B' c' d' e' qs hst.bk w hst.good h1 h2 h3 k2 b2 hk2)
                obtain ⟨a0, a1, a2, a3, a4, a5, a6⟩ := hst.bx.get7
                have hgl := hst.bx.lt
                clear hk2
                go_wp2_with fail
                refine (hTk _ hst.ra hst.ri hst.rb).out.mono ?_
                rintro xx w3 ⟨D2, d2, E2, f2, F2, h2, qz, rfl, hqz, hO3, hb3⟩
                have hb34 := balloc hb3 (.cells #[.int .i64 k2.most, .slice D2 k2.wait.length d2, .int .i64 k2.batch, .int .i64 k2.every, .int .i64 k2.now, .slice E2 k2.heads.length f2, .slice F2 qz.length h2] 28)
                have x4 := hst.bx.below hb34
                have hp84 := hp8.below hb34
                have y4 := Bx.new w3 _ rfl _ [.int .i64 k2.most, .slice D2 k2.wait.length d2, .int .i64 k2.batch, .int .i64 k2.every, .int .i64 k2.now, .slice E2 k2.heads.length f2, .slice F2 qz.length h2] 28 rfl
                have hO4 := hO3.below (balloc (Below.refl _ _) (.cells #[.int .i64 k2.most, .slice D2 k2.wait.length d2, .int .i64 k2.batch, .int .i64 k2.every, .int .i64 k2.now, .slice E2 k2.heads.length f2, .slice F2 qz.length h2] 28))
                have hb4 := below_chain hbw hb34
                have hpg := HP8.out
                clear a0 a1 a2 a3 a4 a5 a6 hTk hO3 hb3 hb34 hst hp8 hbw
                have x9 : Bx ((((((((w3.alloc (.cells #[.int .i64 k2.most, .slice D2 k2.wait.length d2, .int .i64 k2.batch, .int .i64 k2.every, .int .i64 k2.now, .slice E2 k2.heads.length f2, .slice F2 qz.length h2] 28)).setCell ⟨w.heap.size, 0, none⟩ (.int .i64 k2.most)).setCell ⟨w.heap.size, 1, none⟩ (.slice D2 k2.wait.length d2)).setCell ⟨w.heap.size, 2, none⟩ (.int .i64 k2.batch)).setCell ⟨w.heap.size, 3, none⟩ (.int .i64 k2.every)).setCell ⟨w.heap.size, 4, none⟩ (.int .i64 k2.now)).setCell ⟨w.heap.size, 5, none⟩ (.slice E2 k2.heads.length f2)).setCell ⟨w.heap.size, 6, none⟩ (.slice F2 qz.length h2)) (w.heap.size) [.int .i64 k2.most, .slice D2 k2.wait.length d2, .int .i64 k2.batch, .int .i64 k2.every, .int .i64 k2.now, .slice E2 k2.heads.length f2, .slice F2 qz.length h2] := (((((((x4.set 0 (.int .i64 k2.most)).set 1 (.slice D2 k2.wait.length d2)).set 2 (.int .i64 k2.batch)).set 3 (.int .i64 k2.every)).set 4 (.int .i64 k2.now)).set 5 (.slice E2 k2.heads.length f2)).set 6 (.slice F2 qz.length h2))
                have hp89 := (((((((hp84.far (h := w.heap.size) (by omega) 0 (.int .i64 k2.most)).far (h := w.heap.size) (by omega) 1 (.slice D2 k2.wait.length d2)).far (h := w.heap.size) (by omega) 2 (.int .i64 k2.batch)).far (h := w.heap.size) (by omega) 3 (.int .i64 k2.every)).far (h := w.heap.size) (by omega) 4 (.int .i64 k2.now)).far (h := w.heap.size) (by omega) 5 (.slice E2 k2.heads.length f2)).far (h := w.heap.size) (by omega) 6 (.slice F2 qz.length h2))
                have hO9 := (((((((hO4.set (g := w.heap.size) (by omega) 0 (.int .i64 k2.most)).set (g := w.heap.size) (by omega) 1 (.slice D2 k2.wait.length d2)).set (g := w.heap.size) (by omega) 2 (.int .i64 k2.batch)).set (g := w.heap.size) (by omega) 3 (.int .i64 k2.every)).set (g := w.heap.size) (by omega) 4 (.int .i64 k2.now)).set (g := w.heap.size) (by omega) 5 (.slice E2 k2.heads.length f2)).set (g := w.heap.size) (by omega) 6 (.slice F2 qz.length h2))
                have hb9 := (((((((hb4.setCell (p := ⟨w.heap.size, 0, none⟩) (by show w.heap.size ≤ w.heap.size; omega) (.int .i64 k2.most)).setCell (p := ⟨w.heap.size, 1, none⟩) (by show w.heap.size ≤ w.heap.size; omega) (.slice D2 k2.wait.length d2)).setCell (p := ⟨w.heap.size, 2, none⟩) (by show w.heap.size ≤ w.heap.size; omega) (.int .i64 k2.batch)).setCell (p := ⟨w.heap.size, 3, none⟩) (by show w.heap.size ≤ w.heap.size; omega) (.int .i64 k2.every)).setCell (p := ⟨w.heap.size, 4, none⟩) (by show w.heap.size ≤ w.heap.size; omega) (.int .i64 k2.now)).setCell (p := ⟨w.heap.size, 5, none⟩) (by show w.heap.size ≤ w.heap.size; omega) (.slice E2 k2.heads.length f2)).setCell (p := ⟨w.heap.size, 6, none⟩) (by show w.heap.size ≤ w.heap.size; omega) (.slice F2 qz.length h2))
                have HQZ := Lib.hid hqz
                obtain ⟨a0, a1, a2, a3, a4, a5, a6⟩ := y4.get7
                obtain ⟨b0, b1, b2', b3, b4, b5, b6⟩ := x4.get7
                have f0 := x4.f 0 (by simp)
                have f1 := x4.f 1 (by simp)
                have f2' := x4.f 2 (by simp)
                have f3 := x4.f 3 (by simp)
                have f4 := x4.f 4 (by simp)
                have f5 := x4.f 5 (by simp)
                have f6 := x4.f 6 (by simp)
                clear x4 hp84 y4 hO4 hb4 hqz hgl
                go_upto_region 21 with fail
                generalize ((((((((w3.alloc (.cells #[.int .i64 k2.most, .slice D2 k2.wait.length d2, .int .i64 k2.batch, .int .i64 k2.every, .int .i64 k2.now, .slice E2 k2.heads.length f2, .slice F2 qz.length h2] 28)).setCell ⟨w.heap.size, 0, none⟩ (.int .i64 k2.most)).setCell ⟨w.heap.size, 1, none⟩ (.slice D2 k2.wait.length d2)).setCell ⟨w.heap.size, 2, none⟩ (.int .i64 k2.batch)).setCell ⟨w.heap.size, 3, none⟩ (.int .i64 k2.every)).setCell ⟨w.heap.size, 4, none⟩ (.int .i64 k2.now)).setCell ⟨w.heap.size, 5, none⟩ (.slice E2 k2.heads.length f2)).setCell ⟨w.heap.size, 6, none⟩ (.slice F2 qz.length h2)) = w9 at *
                clear a0 a1 a2 a3 a4 a5 a6 b0 b1 b2' b3 b4 b5 b6 f0 f1 f2' f3 f4 f5 f6 hpg
                go_wp2
                go_roundw
                case rel => exact ⟨m + 1, k2, D2, E2, F2, d2, f2, h2, qz, by omega, by go_num, ClSt.of HG2.out HE2.out HQZ.out hO9 x9, hp89, hb9⟩
                case measure => simp [intOf]; omega
              · have n1 : ¬ (m : Int) < (nb : Int) := by omega
                go_wp2
                go_roundw
                case rel => exact ⟨j + 1, k', A', I', B', c', d', e', qs, by omega, by go_num, hst, hp8, hbw⟩
                case measure => simp [intOf]; omega
          · have z0 : ¬ (j : Int) < (zs.length : Int) := by omega
            go_wp2
            go_roundw
            case rel => exact ⟨j + 1, k2, D2, E2, F2, d2, f2, h2, qz, by omega, by go_num, hst, hp8, hbw⟩
            case measure => simp [intOf]; omega
    · clear HL
      go_upto_region 23 with fail
      generalize wr = w0 at *
      have hsm := hst.small
      have hwas := hst.ext.hl
      have hcap := hst.cap
      have hq40 := hsm.h
      have hCk2 := fun (w : World) h1 h2 h3 => Lib.hid (clerkCheckG k' A' I' B' c' d' e' qs hst.bk w hst.good h1 h2 h3)
      have hEqH := fun (w : World) h1 h2 => Lib.hid (eqHeads I' I d' d (k'.heads.take k.heads.length) k.heads w (by rw [hst.ext.h]; unfold maxLen; omega) true (by rw [hst.ext.h]; exact decide_eq_true rfl) h1 h2)
      rw [show (k'.heads.take k.heads.length).length = k.heads.length by rw [List.length_take]; omega] at hEqH
      have j0 : (0 : Int) ≤ (k.heads.length : Int) := by omega
      have j1 : (k.heads.length : Int) ≤ (d' : Int) := by omega
      have j2 : k.heads.length ≤ d' := by omega
      have j3 : decide ((k'.heads.length : Int) < (k.heads.length : Int)) = false := decide_eq_false (by omega)
      have j4 : decide (k'.heads.length < k.heads.length) = false := decide_eq_false (by omega)
      obtain ⟨a0, a1, a2, a3, a4, a5, a6⟩ := hst.bx.get7
      have q5 := hp8.get7.2.2.2.2.2.1
      clear hq40 hcap
      refine wp_region_held_drew (S := fun W => W.cell? ⟨w.heap.size, 0, none⟩ = some (.int .i64 k'.most) ∧ W.cell? ⟨w.heap.size, 1, none⟩ = some (.slice A' k'.wait.length c') ∧ W.cell? ⟨w.heap.size, 2, none⟩ = some (.int .i64 k'.batch) ∧ W.cell? ⟨w.heap.size, 3, none⟩ = some (.int .i64 k'.every) ∧ W.cell? ⟨w.heap.size, 4, none⟩ = some (.int .i64 k'.now) ∧ W.cell? ⟨w.heap.size, 5, none⟩ = some (.slice I' k'.heads.length d') ∧ W.cell? ⟨w.heap.size, 6, none⟩ = some (.slice B' qs.length e') ∧ W.cell? ⟨p8, 5, none⟩ = some (.slice I k.heads.length d)) (by kernel_rfl) ⟨a0, a1, a2, a3, a4, a5, a6, q5⟩ (fun hHeld => ?_)
      refine wpAnyH_take (i := 0) (v := ?_) rfl (by kernel_rfl) (by kernel_rfl) (by kernel_rfl) (fun _ _ _ h => h) (Or.inl ⟨by rfl, ?_⟩) (by assumption) ?_
      rotate_left
      · intro wt hSt
        try dsimp only at hSt
        first | (go_simp; done) | (go_simp; with_reducible rfl)
      simp only [Act.put, List.setIfInBounds_toArray, List.set_cons_zero, List.set_cons_succ, List.getElem_toArray, List.getElem_cons_zero]
      refine wpAnyH_ready (rs := [1]) (by kernel_rfl) (by simp) ?_
      refine AllReadyH.cons rfl (fun K hK => ?_) AllReadyH.nil
      go_simp
      go_at_call 7
      refine (hCk2 _ (hst.ra.drewN 1) (hst.ri.drewN 1) (hst.rb.below (bdrew (Below.refl _ _)))).out.mono ?_
      rintro xx v1 ⟨rfl, hv1'⟩
      have hv1 : Below w0.heap.size w0 v1 := below_chain (bdrew (Below.refl _ _)) hv1'
      have hst1 := hst.below hv1
      have hp81 := hp8.below hv1
      go_wp2_with fail
      refine hK.out _ _ ⟨hst1.bx.get7.1, hst1.bx.get7.2.1, hst1.bx.get7.2.2.1, hst1.bx.get7.2.2.2.1, hst1.bx.get7.2.2.2.2.1, hst1.bx.get7.2.2.2.2.2.1, hst1.bx.get7.2.2.2.2.2.2, hp81.get7.2.2.2.2.2.1⟩ (fun hHeld => ?_)
      clear hK K
      refine wpAnyH_take (i := 2) (v := ?_) rfl (by kernel_rfl) (by kernel_rfl) (by kernel_rfl) (fun _ _ _ h => h) (Or.inl ⟨by rfl, ?_⟩) (by assumption) ?_
      rotate_left
      · intro wt hSt
        try dsimp only at hSt
        first | (go_simp; done) | (go_simp; with_reducible rfl)
      simp only [Act.put, List.setIfInBounds_toArray, List.set_cons_zero, List.set_cons_succ, List.getElem_toArray, List.getElem_cons_zero, List.getElem_cons_succ]
      refine wpAnyH_take (i := 3) (v := ?_) rfl (by kernel_rfl) (by kernel_rfl) (by kernel_rfl) (fun _ _ _ h => h) (Or.inl ⟨by rfl, ?_⟩) (by assumption) ?_
      rotate_left
      · intro wt hSt
        try dsimp only at hSt
        first | (go_simp; done) | (go_simp; with_reducible rfl)
      simp only [Act.put, List.setIfInBounds_toArray, List.set_cons_zero, List.set_cons_succ, List.getElem_toArray, List.getElem_cons_zero, List.getElem_cons_succ]
      refine wpAnyH_take (i := 4) (v := ?_) rfl (by kernel_rfl) (by kernel_rfl) (by kernel_rfl) (fun _ _ _ h => h) (Or.inl ⟨by rfl, ?_⟩) (by assumption) ?_
      rotate_left
      · intro wt hSt
        try dsimp only at hSt
        first | (go_simp; done) | (go_simp; with_reducible rfl)
      simp only [Act.put, List.setIfInBounds_toArray, List.set_cons_zero, List.set_cons_succ, List.getElem_toArray, List.getElem_cons_zero, List.getElem_cons_succ]
      refine wpAnyH_take (i := 5) (v := ?_) rfl (by kernel_rfl) (by kernel_rfl) (by kernel_rfl) (fun _ _ _ h => h) (Or.inl ⟨by rfl, ?_⟩) (by assumption) ?_
      rotate_left
      · intro wt hSt
        try dsimp only at hSt
        first | (go_simp; done) | (go_simp; with_reducible rfl)
      simp only [Act.put, List.setIfInBounds_toArray, List.set_cons_zero, List.set_cons_succ, List.getElem_toArray, List.getElem_cons_zero, List.getElem_cons_succ]
      refine wpAnyH_take (i := 6) (v := ?_) rfl (by kernel_rfl) (by kernel_rfl) (by kernel_rfl) (fun _ _ _ h => h) (Or.inl ⟨by rfl, ?_⟩) (by assumption) ?_
      rotate_left
      · intro wt hSt
        try dsimp only at hSt
        first | (go_simp; done) | (go_simp; with_reducible rfl)
      simp only [Act.put, List.setIfInBounds_toArray, List.set_cons_zero, List.set_cons_succ, List.getElem_toArray, List.getElem_cons_zero, List.getElem_cons_succ]
      refine wpAnyH_take (i := 7) (v := ?_) rfl (by kernel_rfl) (by kernel_rfl) (by kernel_rfl) (fun _ _ _ h => h) (Or.inl ⟨by rfl, ?_⟩) (by assumption) ?_
      rotate_left
      · intro wt hSt
        try dsimp only at hSt
        first | (go_simp; done) | (go_simp; with_reducible rfl)
      simp only [Act.put, List.setIfInBounds_toArray, List.set_cons_zero, List.set_cons_succ, List.getElem_toArray, List.getElem_cons_zero, List.getElem_cons_succ]
      refine wpAnyH_take (i := 8) (v := ?_) rfl (by kernel_rfl) (by kernel_rfl) (by kernel_rfl) (fun _ _ _ h => h) (Or.inl ⟨by rfl, ?_⟩) (by assumption) ?_
      rotate_left
      · intro wt hSt
        try dsimp only at hSt
        first | (go_simp; done) | (go_simp; with_reducible rfl)
      simp only [Act.put, List.setIfInBounds_toArray, List.set_cons_zero, List.set_cons_succ, List.getElem_toArray, List.getElem_cons_zero, List.getElem_cons_succ]
      refine wpAnyH_take (i := 9) (v := ?_) rfl (by kernel_rfl) (by kernel_rfl) (by kernel_rfl) (fun _ _ _ h => h) (Or.inl ⟨by rfl, ?_⟩) (by assumption) ?_
      rotate_left
      · intro wt hSt
        try dsimp only at hSt
        first | (go_simp; done) | (go_simp; with_reducible rfl)
      simp only [Act.put, List.setIfInBounds_toArray, List.set_cons_zero, List.set_cons_succ, List.getElem_toArray, List.getElem_cons_zero, List.getElem_cons_succ]
      refine wpAnyH_take (i := 10) (v := ?_) rfl (by kernel_rfl) (by kernel_rfl) (by kernel_rfl) (fun _ _ _ h => h) (Or.inl ⟨by rfl, ?_⟩) (by assumption) ?_
      rotate_left
      · intro wt hSt
        try dsimp only at hSt
        first | (go_simp; done) | (go_simp; with_reducible rfl)
      simp only [Act.put, List.setIfInBounds_toArray, List.set_cons_zero, List.set_cons_succ, List.getElem_toArray, List.getElem_cons_zero, List.getElem_cons_succ]
      refine wpAnyH_take (i := 11) (v := ?_) rfl (by kernel_rfl) (by kernel_rfl) (by kernel_rfl) (fun _ _ _ h => h) (Or.inl ⟨by rfl, ?_⟩) (by assumption) ?_
      rotate_left
      · intro wt hSt
        try dsimp only at hSt
        first | (go_simp; done) | (go_simp; with_reducible rfl)
      simp only [Act.put, List.setIfInBounds_toArray, List.set_cons_zero, List.set_cons_succ, List.getElem_toArray, List.getElem_cons_zero, List.getElem_cons_succ]
      refine wpAnyH_take (i := 12) (v := ?_) rfl (by kernel_rfl) (by kernel_rfl) (by kernel_rfl) (fun _ _ _ h => h) (Or.inl ⟨by rfl, ?_⟩) (by assumption) ?_
      rotate_left
      · intro wt hSt
        try dsimp only at hSt
        first | (go_simp; done) | (go_simp; with_reducible rfl)
      simp only [Act.put, List.setIfInBounds_toArray, List.set_cons_zero, List.set_cons_succ, List.getElem_toArray, List.getElem_cons_zero, List.getElem_cons_succ]
      refine wpAnyH_take (i := 13) (v := ?_) rfl (by kernel_rfl) (by kernel_rfl) (by kernel_rfl) (fun _ _ _ h => h) (Or.inl ⟨by rfl, ?_⟩) (by assumption) ?_
      rotate_left
      · intro wt hSt
        try dsimp only at hSt
        first | (go_simp; done) | (go_simp; with_reducible rfl)
      simp only [Act.put, List.setIfInBounds_toArray, List.set_cons_zero, List.set_cons_succ, List.getElem_toArray, List.getElem_cons_zero, List.getElem_cons_succ]
      refine wpAnyH_take (i := 14) (v := ?_) rfl (by kernel_rfl) (by kernel_rfl) (by kernel_rfl) (fun _ _ _ h => h) (Or.inl ⟨by rfl, ?_⟩) (by assumption) ?_
      rotate_left
      · intro wt hSt
        try dsimp only at hSt
        first | (go_simp; done) | (go_simp; with_reducible rfl)
      simp only [Act.put, List.setIfInBounds_toArray, List.set_cons_zero, List.set_cons_succ, List.getElem_toArray, List.getElem_cons_zero, List.getElem_cons_succ]
      refine wpAnyH_take (i := 15) (v := ?_) rfl (by kernel_rfl) (by kernel_rfl) (by kernel_rfl) (fun _ _ _ h => h) (Or.inl ⟨by rfl, ?_⟩) (by assumption) ?_
      rotate_left
      · intro wt hSt
        try dsimp only at hSt
        first | (go_simp; done) | (go_simp; with_reducible rfl)
      simp only [Act.put, List.setIfInBounds_toArray, List.set_cons_zero, List.set_cons_succ, List.getElem_toArray, List.getElem_cons_zero, List.getElem_cons_succ]
      refine wpAnyH_take (i := 16) (v := ?_) rfl (by kernel_rfl) (by kernel_rfl) (by kernel_rfl) (fun _ _ _ h => h) (Or.inl ⟨by rfl, ?_⟩) (by assumption) ?_
      rotate_left
      · intro wt hSt
        try dsimp only at hSt
        first | (go_simp; done) | (go_simp; with_reducible rfl)
      simp only [Act.put, List.setIfInBounds_toArray, List.set_cons_zero, List.set_cons_succ, List.getElem_toArray, List.getElem_cons_zero, List.getElem_cons_succ]
      refine wpAnyH_ready (rs := [17]) (by kernel_rfl) (by simp) ?_
      refine AllReadyH.cons rfl (fun K hK => ?_) AllReadyH.nil
      go_simp
      go_at_call 10
      refine (hEqH _ (hst1.ri.takeH _) (hI.below (below_chain hbw hv1))).out.mono ?_
      rintro xx v2 ⟨rfl, m2, rfl⟩
      go_wp2_with fail
      refine hK.out _ _ ⟨hst1.bx.get7.1, hst1.bx.get7.2.1, hst1.bx.get7.2.2.1, hst1.bx.get7.2.2.2.1, hst1.bx.get7.2.2.2.2.1, hst1.bx.get7.2.2.2.2.2.1, hst1.bx.get7.2.2.2.2.2.2, hp81.get7.2.2.2.2.2.1⟩ (fun hHeld => ?_)
      clear hK K
      refine wpAnyH_take (i := 18) (v := ?_) rfl (by kernel_rfl) (by kernel_rfl) (by kernel_rfl) (fun _ _ _ h => h) (Or.inl ⟨by rfl, ?_⟩) (by assumption) ?_
      rotate_left
      · intro wt hSt
        try dsimp only at hSt
        first | (go_simp; done) | (go_simp; with_reducible rfl)
      simp only [Act.put, List.setIfInBounds_toArray, List.set_cons_zero, List.set_cons_succ, List.getElem_toArray, List.getElem_cons_zero, List.getElem_cons_succ]
      refine wpAnyH_take (i := 19) (v := ?_) rfl (by kernel_rfl) (by kernel_rfl) (by kernel_rfl) (fun _ _ _ h => h) (Or.inl ⟨by rfl, ?_⟩) (by assumption) ?_
      rotate_left
      · intro wt hSt
        try dsimp only at hSt
        first | (go_simp; done) | (go_simp; with_reducible rfl)
      simp only [Act.put, List.setIfInBounds_toArray, List.set_cons_zero, List.set_cons_succ, List.getElem_toArray, List.getElem_cons_zero, List.getElem_cons_succ]
      refine wpAnyH_done (by kernel_rfl) ?_ _
      have hst2 := hst1.below (below_of_drewN _ _ m2)
      have hp82 := hp81.below (below_of_drewN _ _ m2)
      have hbw2 := below_chain hbw (below_chain hv1 (below_of_drewN _ _ m2))
      have hBKS := Lib.hid (hst.ext.b)
      have hBKL := Lib.hid (hst.ext.bl)
      clear hst hp8 hbw hst1 hp81 hv1 hv1' a0 a1 a2 a3 a4 a5 a6 q5 hCk2 hEqH j0 j1 j2 j3 j4 hwas hHeld
      go_wp2
      generalize v1.drewN m2 = v3 at *
      go_loopw [92] (fun i wr => ∃ j : Nat, j ≤ k.heads.length ∧ i = .int .i64 j ∧ Below v3.heap.size v3 wr) (fun i _ => k.heads.length - (intOf i).toNat)
      case atStart => exact ⟨0, Nat.zero_le _, rfl, Below.refl _ _⟩
      case round =>
        obtain ⟨j, hj, rfl, hbl⟩ := hrel
        have hst3 := hst2.below hbl
        have hp83 := hp82.below hbl
        have hbw3 := below_chain hbw2 hbl
        clear hst2 hp82 hbw2
        have hk40 := HSM.out.h
        by_cases hlt : j < k.heads.length
        · have hjp : j < ps.length := by have := HPL.out; omega
          have hjk : j < k.books.length := by rw [← HPS.out, bks_length]; exact hjp
          have hjk' : j < k'.books.length := by have := hBKL.out; omega
          have hbj : k'.books[j] = ps[j].2.2 := by
            have h1 : k'.books[j] = (k'.books.take k.books.length)[j]'(by rw [List.length_take]; omega) := by rw [List.getElem_take]
            rw [h1]
            have h2 := hBKS.out
            have h3 : (k'.books.take k.books.length)[j]'(by rw [List.length_take]; omega) = k.books[j] := by congr 1
            rw [h3, ← bks_get ps j hjp]
            congr 1
            exact HPS.out.symm
          obtain ⟨gB, oB, rfl, jB, rB⟩ := (hB.below hbw3).get j hjp
          have hpe := (HSM.out.e _ (List.getElem_mem hjp)).1
          generalize ps[j].2.2 = T at *
          generalize ps[j].1 = P1 at *
          generalize ps[j].2.1 = P2 at *
          have hBk := fun (w : World) h1 h2 h3 => Lib.hid (clerkBookG k' A' I' B' c' d' e' qs hst3.bk j hjk' w hst3.good h1 h2 h3 T hbj)
          have hEq := fun (w : World) (D : Option Addr) (dd : Nat) h1 h2 => Lib.hid (eqEnts D P1 dd P2 T T w (by unfold maxLen; omega) true (decide_eq_true rfl) h1 h2)
          have i0 : (0 : Int) ≤ (j : Int) := by omega
          have i1 : (j : Int) < (ps.length : Int) := by omega
          have i2 : (j : Int) < (k.heads.length : Int) := by omega
          obtain ⟨a0, a1, a2, a3, a4, a5, a6⟩ := hst3.bx.get7
          have q6 := hp83.get7.2.2.2.2.2.2
          clear hbj hpe hjp hjk hjk'
          go_wp2_with fail
          refine (hBk _ hst3.ra hst3.ri hst3.rb).out.mono ?_
          rintro xx v4 ⟨D, dd, rfl, hown4, hb4⟩
          have q64 := kept q6 hb4
          have jB4 := kept jB hb4
          have rB4 := rB.below hb4
          clear a0 a1 a2 a3 a4 a5 a6 q6 jB rB hBk
          go_wp2_with fail
          refine (hEq _ D dd (Row.ownN hown4) rB4).out.mono ?_
          rintro xx v5 ⟨rfl, m5, rfl⟩
          go_wp2
          go_roundw
          case rel => exact ⟨j + 1, by omega, by go_num, below_chain hbl (below_chain hb4 (below_of_drewN _ _ _))⟩
          case measure => simp [intOf]; omega
        · have : j = k.heads.length := by omega
          subst this
          go_wp2
          go_ret
          exact ⟨rfl, hbw3⟩
theorem clerkRight_walk (m ba ev nw : Int) (A I B : Option Addr) (c d e : Nat) (l : List Ak) (hs : List Hd) (bs : List Bp) (Q Z : Option Addr) (cq cz : Nat) (s : List Ak) (zs : List Int) (w : World)
    (hq : l.length ≤ maxLen ∧ Row w A (qcells l) ∧ l.length ≤ c ∧ c ≤ maxLen ∧ (∀ x ∈ l, (x.1.length ≤ maxLen ∧ x.2.1.length ≤ maxLen) ∧ x.2.2.1 < 18446744073709551616 ∧ x.2.2.2 < 18446744073709551616))
    (hh : hs.length ≤ maxLen ∧ Row w I (hcells hs) ∧ hs.length ≤ d ∧ d ≤ maxLen ∧ (∀ x ∈ hs, (-9223372036854775808 ≤ x.1 ∧ x.1 ≤ 9223372036854775807) ∧ x.2.1 < 18446744073709551616 ∧ x.2.2.1 < 18446744073709551616 ∧ (-9223372036854775808 ≤ x.2.2.2 ∧ x.2.2.2 ≤ 9223372036854775807)))
    (hk : bs.length ≤ maxLen ∧ Books w B bs ∧ bs.length ≤ e ∧ e ≤ maxLen ∧ ∀ p ∈ bs, (p.2.2.length ≤ maxLen ∧ ∀ x ∈ p.2.2, x.1.length ≤ maxLen ∧ x.2.length ≤ maxLen) ∧ p.2.2.length ≤ p.2.1)
    (hs1 : s.length ≤ maxLen) (hS : Row w Q (qcells s)) (hsf : ∀ x ∈ s, (x.1.length ≤ maxLen ∧ x.2.1.length ≤ maxLen) ∧ x.2.2.1 < 18446744073709551616 ∧ x.2.2.2 < 18446744073709551616) (hz1 : zs.length ≤ maxLen) (hZ : Row w Z (icells zs)) :
    Calls Try.prog 3 #[.agg #[.int .i64 m, .slice A l.length c, .int .i64 ba, .int .i64 ev, .int .i64 nw, .slice I hs.length d, .slice B bs.length e], .slice Q s.length cq, .slice Z zs.length cz] w fun e w' => e = .returned (.bool true) ∧ Below w.heap.size w w' := by
  by_cases h0 : ckfault ⟨m, l, ba, ev, nw, hs, bks bs⟩ = 0
  · exact clerkRight_good ⟨m, l, ba, ev, nw, hs, bks bs⟩ A I B c d e bs rfl Q Z cq cz s zs w ((ckfault_ok _).1 h0) hh.2.2.1 hs1 hz1 hsf hq.2.1 hh.2.1 hk.2.1 hS hZ
  · exact clerkRight_fault ⟨m, l, ba, ev, nw, hs, bks bs⟩ A I B c d e bs rfl Q Z cq cz s zs w hq.1 (fun x hx => (hq.2.2.2.2 x hx).1) hh.1 hk.1 (fun p hp => (hk.2.2.2.2 p hp).1) hq.2.1 hh.2.1 hk.2.1 _ rfl h0
set_option maxRecDepth 100000 in
theorem clerkRight_lifted (os : Os) (started : os.Started) (H : Type) (enc : TypeId × Value → H) :
    ReturnsInHanded {} Try.checked os 3 .any (Rows.clerkRightSpec.pre6 enc Try.prog Try.f3 Rows.clerkRightRow.domain false) (Rows.clerkRightSpec.post enc Try.prog Try.f3 false true false false) := by
  refine returnsInHanded_of_change (C := Try.checked) own started (by kernel_rfl) Try.func3
    (ChangeSpec.witness6 (enc := enc) (C := Try.checked) false ⟨#[], #[.agg #[.int .i64 0, .slice none 0 0, .int .i64 0, .int .i64 0, .int .i64 0, .slice none 0 0, .slice none 0 0], .slice none 0 0, .slice none 0 0], []⟩ 8 (by kernel_rfl) (by kernel_rfl) (by kernel_rfl) (by kernel_rfl)) ?_
  intro W base args ds gs before hval0 hW hcnd _
  have hval : ∀ (j : Nat) t v, Try.f3.params[j]? = some t → args[j]? = some v → Value.okWide Try.prog W .any base t v := hval0
  have hW' := hW
  obtain ⟨p, q, hA0, hV, rfl, hfz, hnd⟩ := hW
  have hA : DataW.TrodAll enc Try.prog W 0 (fun _ => true) true Try.f3.params.toList args.toList ds p := hA0
  rw [Try.params3] at hA hval
  obtain ⟨v0, vs0, d0, ds0, p0, q0, hargs, rfl, rfl, h0, r0⟩ := trodAll_cons hA
  obtain ⟨v1, vs1, d1, ds1, p1, q1, rfl, rfl, rfl, h1, r1⟩ := trodAll_cons r0
  obtain ⟨v2, vs2, d2, ds2, p2, q2, rfl, rfl, rfl, h2, r2⟩ := trodAll_cons r1
  obtain ⟨rfl, rfl, rfl⟩ := trodAll_nil r2
  obtain rfl : args = #[v0, v1, v2] := by cases args; simp_all
  obtain ⟨rfl, rfl⟩ := trodVars_none hV
  obtain ⟨m0, ba0, ev0, nw0, A0, I0, B0, c0, dd0, e0, s0, g0, bs0, rfl, hi0, hq0, hh0, hk0⟩ := arg_clerk (hval 0 28 v0 rfl rfl) h0
  obtain ⟨A1, c1, s1, rfl, hm1, hr1, hc1, hd1, hs1, -⟩ := arg_asks (hval 1 22 v1 rfl rfl) h1
  obtain ⟨A2, c2, s2, rfl, hm2, hr2, hc2⟩ := arg_ints (hval 2 29 v2 rfl rfl) h2
  refine (clerkRight_walk m0 ba0 ev0 nw0 A0 I0 B0 c0 dd0 e0 s0 g0 bs0 A1 A2 c1 c2 s1 s2 W hq0 hh0 hk0 hm1 hr1 hs1 hm2 hr2).mono fun e W' ⟨he, hb⟩ => ?_
  subst he
  exact ⟨_, rfl, post_law laidOut (by decide +kernel) rfl Try.underlying4 (by kernel_rfl) hW' rfl hb⟩

/-- The statement. -/
theorem clerkRight_said : Rows.ClerkRightSaid :=
  OpenClaim.holds_of_wide 3 Try.f3 rfl rfl rfl rfl rfl rfl rfl ⟨rfl, rfl, rfl, rfl, rfl⟩ rfl rfl rfl rfl rfl (by kernel_rfl) Try.func3 (by kernel_rfl)
    (of_decide_eq_true (by kernel_rfl)) (by unfold Func.isWrapper; first | (rw [if_pos (by decide +kernel)]; kernel_rfl) | (rw [if_neg (by decide +kernel)]; exact ⟨rfl, rfl⟩))
    (fun os started H enc _ => clerkRight_lifted os started H enc)
#print axioms clerkRight_said
end Go.Proofs.Ytjcockcilkiggaa
