/- The reference: the errors of ClerkAsk at a clerk that is right. It writes nothing that was there. -/
import Derived.Test.YtjcockcilkiggaaGreatJ32
namespace Go.Proofs.YtjcockcilkiggaaGreat
set_option maxRecDepth 100000
open Go.RowKit

set_option maxHeartbeats 4000000 in
theorem refClerkAsk_no (most ba ev nw : Int) (l : List Ak) (hs : List Hd) (ps : List Bp) (A H B : Option Addr) (c d e : Nat) (n v : Bytes) (x t : Nat) (w : World) (hg : CkGood ⟨most, l, ba, ev, nw, hs, bks ps⟩) (hn : n.length ≤ maxLen) (hv : v.length ≤ maxLen)
    (hA : Row w A (qcells l)) (hB : Books w B ps) (r : Int) (hr : ckAskErr ⟨most, l, ba, ev, nw, hs, bks ps⟩ n v = r) (h0 : r ≠ 0) :
    Calls Tryz.prog 12 #[.agg #[.int .i64 most, .slice A l.length c, .int .i64 ba, .int .i64 ev, .int .i64 nw, .slice H hs.length d, .slice B ps.length e], .agg #[.string (S n), .string (S v), .int .u64 (x : Int), .int .u64 (t : Int)]] w (ClerkNo r w) := by
  have hb0 : Below w.heap.size w (((w.alloc (.cells #[.int .i64 most, .slice A l.length c, .int .i64 ba, .int .i64 ev, .int .i64 nw, .slice H hs.length d, .slice B ps.length e] 28)).alloc (.cells #[.string (S n), .string (S v), .int .u64 (x : Int), .int .u64 (t : Int)] 31)).alloc (.cells #[.int .i64 0, .slice none 0 0, .int .i64 0, .int .i64 0, .int .i64 0, .slice none 0 0, .slice none 0 0] 28)) := (((Below.refl _ _).alloc (Nat.le_refl _) _).alloc (by simp) _).alloc (by simp; omega) _
  have x0 := ((Bx.new w _ rfl _ [.int .i64 most, .slice A l.length c, .int .i64 ba, .int .i64 ev, .int .i64 nw, .slice H hs.length d, .slice B ps.length e] 28 rfl).alloc (.cells #[.string (S n), .string (S v), .int .u64 (x : Int), .int .u64 (t : Int)] 31)).alloc (.cells #[.int .i64 0, .slice none 0 0, .int .i64 0, .int .i64 0, .int .i64 0, .slice none 0 0, .slice none 0 0] 28)
  have y0 := (Bx.new (w.alloc (.cells #[.int .i64 most, .slice A l.length c, .int .i64 ba, .int .i64 ev, .int .i64 nw, .slice H hs.length d, .slice B ps.length e] 28)) (w.heap.size + 1) (by simp) _ [.string (S n), .string (S v), .int .u64 (x : Int), .int .u64 (t : Int)] 31 rfl).alloc (.cells #[.int .i64 0, .slice none 0 0, .int .i64 0, .int .i64 0, .int .i64 0, .slice none 0 0, .slice none 0 0] 28)
  have z0 := Bx.new ((w.alloc (.cells #[.int .i64 most, .slice A l.length c, .int .i64 ba, .int .i64 ev, .int .i64 nw, .slice H hs.length d, .slice B ps.length e] 28)).alloc (.cells #[.string (S n), .string (S v), .int .u64 (x : Int), .int .u64 (t : Int)] 31)) (w.heap.size + 2) (by simp) _ [.int .i64 0, .slice none 0 0, .int .i64 0, .int .i64 0, .int .i64 0, .slice none 0 0, .slice none 0 0] 28 rfl
  obtain ⟨a0, a1, a2, a3, a4, a5, a6⟩ := x0.get7
  obtain ⟨⟨y1, y2, y3, y4⟩, _⟩ := y0.get4
  have hq : QGood most l := hg.queue
  have hl30 : l.length ≤ 30 := by have := hq.len; have := hq.m30; omega
  have hc40 : hs.length ≤ 40 := hg.chain.len
  have hc0 : 0 < hs.length := hg.chain.pos
  have hph : ps.length = hs.length := by
    have := hg.form
    unfold formBad at this
    dsimp only at this
    rw [bks_length] at this
    omega
  obtain ⟨m, hpm⟩ : ∃ m, ps.length = m + 1 := ⟨ps.length - 1, by omega⟩
  obtain ⟨bk, hbk⟩ : ∃ u, (ps[m]'(by omega)).2.2 = u := ⟨_, rfl⟩
  have hgd : Good bk := by
    have := (hg.each m (by show m < (bks ps).length; rw [bks_length]; omega) (by show m < hs.length; omega)).1
    have e : (bks ps)[m]'(by rw [bks_length]; omega) = bk := by rw [bks_get ps m (by omega), hbk]
    exact e ▸ this
  have hlb : lastBk ⟨most, l, ba, ev, nw, hs, bks ps⟩ = bk := by
    rw [lastBk_at (m := m) (by show (bks ps).length = _; rw [bks_length]; exact hpm)]
    show (bks ps)[m]'_ = bk
    rw [bks_get ps m (by omega), hbk]
  have hF := fun (w : World) => Lib.hid (refAskFault n v w hn hv _ rfl)
  have hCl := fun (w : World) => Lib.hid (refClosed most ba ev nw A H B l.length c hs.length d ps.length e w _ rfl)
  obtain ⟨nn, hnn⟩ : ∃ u, (Bin.srt (namesOf bk l n)).length = u := ⟨_, rfl⟩
  have hNm := fun (w : World) h1 h2 => Lib.hid (refNamesOf most ba ev nw l hs ps A H B c d e n w m hpm (by omega) (by omega) bk (fun _ => hbk) (by have := hgd.len; omega) (fun y hy => by have := Bin.name_len (hgd.name y hy); unfold maxLen; omega) (fun y hy => by have := ((askFault_ok _ _).1 (hq.each y hy)).1; have := Bin.name_len this; unfold maxLen; omega) hn h1 h2 nn hnn)
  have hnd : namesN ⟨most, l, ba, ev, nw, hs, bks ps⟩ n = nn := by rw [namesN, hlb]; exact hnn
  have hA0 := ((hA.alloc (.cells #[.int .i64 most, .slice A l.length c, .int .i64 ba, .int .i64 ev, .int .i64 nw, .slice H hs.length d, .slice B ps.length e] 28)).alloc (.cells #[.string (S n), .string (S v), .int .u64 (x : Int), .int .u64 (t : Int)] 31)).alloc (.cells #[.int .i64 0, .slice none 0 0, .int .i64 0, .int .i64 0, .int .i64 0, .slice none 0 0, .slice none 0 0] 28)
  have hB0 := ((hB.alloc (.cells #[.int .i64 most, .slice A l.length c, .int .i64 ba, .int .i64 ev, .int .i64 nw, .slice H hs.length d, .slice B ps.length e] 28)).alloc (.cells #[.string (S n), .string (S v), .int .u64 (x : Int), .int .u64 (t : Int)] 31)).alloc (.cells #[.int .i64 0, .slice none 0 0, .int .i64 0, .int .i64 0, .int .i64 0, .slice none 0 0, .slice none 0 0] 28)
  unfold ckAskErr at hr
  rw [hnd] at hr
  unfold closedB at hr
  dsimp only at hr
  by_cases k0 : askFault n v = 0
  case neg =>
    rw [if_neg k0] at hr
    rw [hr] at hF
    have c0 : (r != 0) = true := bne_iff_ne.2 h0
    clear hr k0 hnd hnn hlb hgd hbk hpm hph hc0 hc40 hl30 hq hg hA hB hn hv h0
    go_enter Tryz.func12, Tryz.ntmps12
    go_wp2_with fail
    refine (hF _).out.mono ?_
    rintro xx w1 ⟨rfl, hw1⟩
    subst hw1
    clear x0 y0 hNm hCl hA0 hB0
    go_wp2
    generalize (((w.alloc (.cells #[.int .i64 most, .slice A l.length c, .int .i64 ba, .int .i64 ev, .int .i64 nw, .slice H hs.length d, .slice B ps.length e] 28)).alloc (.cells #[.string (S n), .string (S v), .int .u64 (x : Int), .int .u64 (t : Int)] 31)).alloc (.cells #[.int .i64 0, .slice none 0 0, .int .i64 0, .int .i64 0, .int .i64 0, .slice none 0 0, .slice none 0 0] 28)) = w9 at *
    obtain ⟨r0, r1, r2, r3, r4, r5, r6⟩ := z0.get7
    refine bodyPost_ret (v := .tuple #[.agg #[.int .i64 0, .slice none 0 0, .int .i64 0, .int .i64 0, .int .i64 0, .slice none 0 0, .slice none 0 0], .int .i64 0, .int .i64 r]) ?_ rfl ⟨rfl, hb0⟩
    rw [results_cell_tmp2 rfl]
    go_simp
  case pos =>
    rw [if_pos k0] at hr
    rw [k0] at hF
    cases k1 : (decide (hs.length = 40) || decide (nw = 1000000000)) with
    | true =>
      rw [k1, if_pos rfl] at hr
      rw [k1] at hCl
      subst hr
      clear k0 k1 hnd hnn hlb hgd hbk hpm hph hc0 hc40 hl30 hq hg hA hB hn hv h0
      go_enter Tryz.func12, Tryz.ntmps12
      go_wp2_with fail
      refine (hF _).out.mono ?_
      rintro xx w1 ⟨rfl, hw1⟩
      subst hw1
      go_wp2_with fail
      refine (hCl _).out.mono ?_
      rintro xx w2 ⟨rfl, hb2⟩
      have x2 := x0.below hb2
      have y2' := y0.below hb2
      have z2 := z0.below hb2
      have hA2 := hA0.below hb2
      have hB2 := hB0.below hb2
      have hb02 := below_chain hb0 hb2
      clear a0 a1 a2 a3 a4 a5 a6 y1 y2 y3 y4 hCl x0 y0 z0 hA0 hB0 hb0 hb2
      obtain ⟨a0, a1, a2, a3, a4, a5, a6⟩ := x2.get7
      obtain ⟨⟨y1, y2, y3, y4⟩, _⟩ := y2'.get4
      have z3 := z2
      clear z2 x2 y2' hNm hA2 hB2
      have z8 : Bx (((((((w2.setCell ⟨w.heap.size + 2, 0, none⟩ (.int .i64 0)).setCell ⟨w.heap.size + 2, 1, none⟩ (.slice none 0 0)).setCell ⟨w.heap.size + 2, 2, none⟩ (.int .i64 0)).setCell ⟨w.heap.size + 2, 3, none⟩ (.int .i64 0)).setCell ⟨w.heap.size + 2, 4, none⟩ (.int .i64 0)).setCell ⟨w.heap.size + 2, 5, none⟩ (.slice none 0 0)).setCell ⟨w.heap.size + 2, 6, none⟩ (.slice none 0 0)) (w.heap.size + 2) [.int .i64 0, .slice none 0 0, .int .i64 0, .int .i64 0, .int .i64 0, .slice none 0 0, .slice none 0 0] := (((((((z3.set 0 (.int .i64 0)).set 1 (.slice none 0 0)).set 2 (.int .i64 0)).set 3 (.int .i64 0)).set 4 (.int .i64 0)).set 5 (.slice none 0 0)).set 6 (.slice none 0 0))
      have hb8 := Lib.hid (((((((hb02.setCell (p := ⟨w.heap.size + 2, 0, none⟩) (by omega : w.heap.size ≤ w.heap.size + 2) (.int .i64 0)).setCell (p := ⟨w.heap.size + 2, 1, none⟩) (by omega : w.heap.size ≤ w.heap.size + 2) (.slice none 0 0)).setCell (p := ⟨w.heap.size + 2, 2, none⟩) (by omega : w.heap.size ≤ w.heap.size + 2) (.int .i64 0)).setCell (p := ⟨w.heap.size + 2, 3, none⟩) (by omega : w.heap.size ≤ w.heap.size + 2) (.int .i64 0)).setCell (p := ⟨w.heap.size + 2, 4, none⟩) (by omega : w.heap.size ≤ w.heap.size + 2) (.int .i64 0)).setCell (p := ⟨w.heap.size + 2, 5, none⟩) (by omega : w.heap.size ≤ w.heap.size + 2) (.slice none 0 0)).setCell (p := ⟨w.heap.size + 2, 6, none⟩) (by omega : w.heap.size ≤ w.heap.size + 2) (.slice none 0 0))
      obtain ⟨b0, b1, b2, b3, b4, b5, b6⟩ := z3.get7
      have g0 := z3.f 0 (by simp)
      have g1 := z3.f 1 (by simp)
      have g2 := z3.f 2 (by simp)
      have g3 := z3.f 3 (by simp)
      have g4 := z3.f 4 (by simp)
      have g5 := z3.f 5 (by simp)
      have g6 := z3.f 6 (by simp)
      go_wp2
      generalize (((((((w2.setCell ⟨w.heap.size + 2, 0, none⟩ (.int .i64 0)).setCell ⟨w.heap.size + 2, 1, none⟩ (.slice none 0 0)).setCell ⟨w.heap.size + 2, 2, none⟩ (.int .i64 0)).setCell ⟨w.heap.size + 2, 3, none⟩ (.int .i64 0)).setCell ⟨w.heap.size + 2, 4, none⟩ (.int .i64 0)).setCell ⟨w.heap.size + 2, 5, none⟩ (.slice none 0 0)).setCell ⟨w.heap.size + 2, 6, none⟩ (.slice none 0 0)) = w9 at *
      obtain ⟨r0, r1, r2, r3, r4, r5, r6⟩ := z8.get7
      refine bodyPost_ret (v := .tuple #[.agg #[.int .i64 0, .slice none 0 0, .int .i64 0, .int .i64 0, .int .i64 0, .slice none 0 0, .slice none 0 0], .int .i64 0, .int .i64 9]) ?_ rfl ⟨rfl, hb8.out⟩
      rw [results_cell_tmp2 rfl]
      go_simp
    | false =>
      rw [k1, if_neg (by simp)] at hr
      rw [k1] at hCl
      by_cases k2 : (l.length : Int) = most
      case pos =>
        rw [if_pos (.inl k2)] at hr
        subst hr
        have c2 : ((l.length : Int) == most) = true := beq_iff_eq.2 k2
        clear k0 k1 k2 hnd hnn hlb hgd hbk hpm hph hc0 hc40 hl30 hq hg hA hB hn hv h0
        go_enter Tryz.func12, Tryz.ntmps12
        go_wp2_with fail
        refine (hF _).out.mono ?_
        rintro xx w1 ⟨rfl, hw1⟩
        subst hw1
        go_wp2_with fail
        refine (hCl _).out.mono ?_
        rintro xx w2 ⟨rfl, hb2⟩
        have x2 := x0.below hb2
        have y2' := y0.below hb2
        have z2 := z0.below hb2
        have hA2 := hA0.below hb2
        have hB2 := hB0.below hb2
        have hb02 := below_chain hb0 hb2
        clear a0 a1 a2 a3 a4 a5 a6 y1 y2 y3 y4 hCl x0 y0 z0 hA0 hB0 hb0 hb2
        obtain ⟨a0, a1, a2, a3, a4, a5, a6⟩ := x2.get7
        obtain ⟨⟨y1, y2, y3, y4⟩, _⟩ := y2'.get4
        have z3 := z2
        clear z2 x2 y2' hNm hA2 hB2
        have z8 : Bx (((((((w2.setCell ⟨w.heap.size + 2, 0, none⟩ (.int .i64 0)).setCell ⟨w.heap.size + 2, 1, none⟩ (.slice none 0 0)).setCell ⟨w.heap.size + 2, 2, none⟩ (.int .i64 0)).setCell ⟨w.heap.size + 2, 3, none⟩ (.int .i64 0)).setCell ⟨w.heap.size + 2, 4, none⟩ (.int .i64 0)).setCell ⟨w.heap.size + 2, 5, none⟩ (.slice none 0 0)).setCell ⟨w.heap.size + 2, 6, none⟩ (.slice none 0 0)) (w.heap.size + 2) [.int .i64 0, .slice none 0 0, .int .i64 0, .int .i64 0, .int .i64 0, .slice none 0 0, .slice none 0 0] := (((((((z3.set 0 (.int .i64 0)).set 1 (.slice none 0 0)).set 2 (.int .i64 0)).set 3 (.int .i64 0)).set 4 (.int .i64 0)).set 5 (.slice none 0 0)).set 6 (.slice none 0 0))
        have hb8 := Lib.hid (((((((hb02.setCell (p := ⟨w.heap.size + 2, 0, none⟩) (by omega : w.heap.size ≤ w.heap.size + 2) (.int .i64 0)).setCell (p := ⟨w.heap.size + 2, 1, none⟩) (by omega : w.heap.size ≤ w.heap.size + 2) (.slice none 0 0)).setCell (p := ⟨w.heap.size + 2, 2, none⟩) (by omega : w.heap.size ≤ w.heap.size + 2) (.int .i64 0)).setCell (p := ⟨w.heap.size + 2, 3, none⟩) (by omega : w.heap.size ≤ w.heap.size + 2) (.int .i64 0)).setCell (p := ⟨w.heap.size + 2, 4, none⟩) (by omega : w.heap.size ≤ w.heap.size + 2) (.int .i64 0)).setCell (p := ⟨w.heap.size + 2, 5, none⟩) (by omega : w.heap.size ≤ w.heap.size + 2) (.slice none 0 0)).setCell (p := ⟨w.heap.size + 2, 6, none⟩) (by omega : w.heap.size ≤ w.heap.size + 2) (.slice none 0 0))
        obtain ⟨b0, b1, b2, b3, b4, b5, b6⟩ := z3.get7
        have g0 := z3.f 0 (by simp)
        have g1 := z3.f 1 (by simp)
        have g2 := z3.f 2 (by simp)
        have g3 := z3.f 3 (by simp)
        have g4 := z3.f 4 (by simp)
        have g5 := z3.f 5 (by simp)
        have g6 := z3.f 6 (by simp)
        go_wp2
        generalize (((((((w2.setCell ⟨w.heap.size + 2, 0, none⟩ (.int .i64 0)).setCell ⟨w.heap.size + 2, 1, none⟩ (.slice none 0 0)).setCell ⟨w.heap.size + 2, 2, none⟩ (.int .i64 0)).setCell ⟨w.heap.size + 2, 3, none⟩ (.int .i64 0)).setCell ⟨w.heap.size + 2, 4, none⟩ (.int .i64 0)).setCell ⟨w.heap.size + 2, 5, none⟩ (.slice none 0 0)).setCell ⟨w.heap.size + 2, 6, none⟩ (.slice none 0 0)) = w9 at *
        obtain ⟨r0, r1, r2, r3, r4, r5, r6⟩ := z8.get7
        refine bodyPost_ret (v := .tuple #[.agg #[.int .i64 0, .slice none 0 0, .int .i64 0, .int .i64 0, .int .i64 0, .slice none 0 0, .slice none 0 0], .int .i64 0, .int .i64 7]) ?_ rfl ⟨rfl, hb8.out⟩
        rw [results_cell_tmp2 rfl]
        go_simp
      case neg =>
        have c2 : ((l.length : Int) == most) = false := beq_eq_false_iff_ne.2 k2
        by_cases k3 : 24 < nn
        case pos =>
          rw [if_pos (.inr k3)] at hr
          subst hr
          have c3 : decide ((24 : Int) < (nn : Int)) = true := decide_eq_true (by omega)
          clear k0 k1 k2 k3 hnd hnn hlb hgd hbk hpm hph hc0 hc40 hl30 hq hg hA hB hn hv h0
          go_enter Tryz.func12, Tryz.ntmps12
          go_wp2_with fail
          refine (hF _).out.mono ?_
          rintro xx w1 ⟨rfl, hw1⟩
          subst hw1
          go_wp2_with fail
          refine (hCl _).out.mono ?_
          rintro xx w2 ⟨rfl, hb2⟩
          have x2 := x0.below hb2
          have y2' := y0.below hb2
          have z2 := z0.below hb2
          have hA2 := hA0.below hb2
          have hB2 := hB0.below hb2
          have hb02 := below_chain hb0 hb2
          clear a0 a1 a2 a3 a4 a5 a6 y1 y2 y3 y4 hCl x0 y0 z0 hA0 hB0 hb0 hb2
          obtain ⟨a0, a1, a2, a3, a4, a5, a6⟩ := x2.get7
          obtain ⟨⟨y1, y2, y3, y4⟩, _⟩ := y2'.get4
          go_wp2_with fail
          refine (hNm _ hA2 hB2).out.mono ?_
          rintro xx w3 ⟨rfl, hb3⟩
          have x3 := x2.below hb3
          have y3' := y2'.below hb3
          have z3 := z2.below hb3
          have hb03 := below_chain hb02 hb3
          clear z2 x2 y2' hNm hA2 hB2 hb3 x3 y3'
          have z8 : Bx (((((((w3.setCell ⟨w.heap.size + 2, 0, none⟩ (.int .i64 0)).setCell ⟨w.heap.size + 2, 1, none⟩ (.slice none 0 0)).setCell ⟨w.heap.size + 2, 2, none⟩ (.int .i64 0)).setCell ⟨w.heap.size + 2, 3, none⟩ (.int .i64 0)).setCell ⟨w.heap.size + 2, 4, none⟩ (.int .i64 0)).setCell ⟨w.heap.size + 2, 5, none⟩ (.slice none 0 0)).setCell ⟨w.heap.size + 2, 6, none⟩ (.slice none 0 0)) (w.heap.size + 2) [.int .i64 0, .slice none 0 0, .int .i64 0, .int .i64 0, .int .i64 0, .slice none 0 0, .slice none 0 0] := (((((((z3.set 0 (.int .i64 0)).set 1 (.slice none 0 0)).set 2 (.int .i64 0)).set 3 (.int .i64 0)).set 4 (.int .i64 0)).set 5 (.slice none 0 0)).set 6 (.slice none 0 0))
          have hb8 := Lib.hid (((((((hb03.setCell (p := ⟨w.heap.size + 2, 0, none⟩) (by omega : w.heap.size ≤ w.heap.size + 2) (.int .i64 0)).setCell (p := ⟨w.heap.size + 2, 1, none⟩) (by omega : w.heap.size ≤ w.heap.size + 2) (.slice none 0 0)).setCell (p := ⟨w.heap.size + 2, 2, none⟩) (by omega : w.heap.size ≤ w.heap.size + 2) (.int .i64 0)).setCell (p := ⟨w.heap.size + 2, 3, none⟩) (by omega : w.heap.size ≤ w.heap.size + 2) (.int .i64 0)).setCell (p := ⟨w.heap.size + 2, 4, none⟩) (by omega : w.heap.size ≤ w.heap.size + 2) (.int .i64 0)).setCell (p := ⟨w.heap.size + 2, 5, none⟩) (by omega : w.heap.size ≤ w.heap.size + 2) (.slice none 0 0)).setCell (p := ⟨w.heap.size + 2, 6, none⟩) (by omega : w.heap.size ≤ w.heap.size + 2) (.slice none 0 0))
          obtain ⟨b0, b1, b2, b3, b4, b5, b6⟩ := z3.get7
          have g0 := z3.f 0 (by simp)
          have g1 := z3.f 1 (by simp)
          have g2 := z3.f 2 (by simp)
          have g3 := z3.f 3 (by simp)
          have g4 := z3.f 4 (by simp)
          have g5 := z3.f 5 (by simp)
          have g6 := z3.f 6 (by simp)
          go_wp2
          generalize (((((((w3.setCell ⟨w.heap.size + 2, 0, none⟩ (.int .i64 0)).setCell ⟨w.heap.size + 2, 1, none⟩ (.slice none 0 0)).setCell ⟨w.heap.size + 2, 2, none⟩ (.int .i64 0)).setCell ⟨w.heap.size + 2, 3, none⟩ (.int .i64 0)).setCell ⟨w.heap.size + 2, 4, none⟩ (.int .i64 0)).setCell ⟨w.heap.size + 2, 5, none⟩ (.slice none 0 0)).setCell ⟨w.heap.size + 2, 6, none⟩ (.slice none 0 0)) = w9 at *
          obtain ⟨r0, r1, r2, r3, r4, r5, r6⟩ := z8.get7
          refine bodyPost_ret (v := .tuple #[.agg #[.int .i64 0, .slice none 0 0, .int .i64 0, .int .i64 0, .int .i64 0, .slice none 0 0, .slice none 0 0], .int .i64 0, .int .i64 7]) ?_ rfl ⟨rfl, hb8.out⟩
          rw [results_cell_tmp2 rfl]
          go_simp
        case neg =>
          rw [if_neg (by rintro (h | h); exact k2 h; exact k3 h)] at hr
          exact absurd hr.symm h0
end Go.Proofs.YtjcockcilkiggaaGreat
