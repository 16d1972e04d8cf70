/- The reference: SameClerk at equal clerks of whatever size within the form's reach returns true. It writes nothing that was there. -/
import Derived.Test.YtjcockcilkiggaaJ08
namespace Go.Proofs.Ytjcockcilkiggaa
set_option maxRecDepth 100000
open Go.RowKit

set_option maxHeartbeats 4000000 in
theorem refSameClerkS (most ba ev nw : Int) (l : List Ak) (hs : List Hd) (ps qs : List Bp) (A A' H H' B B' : Option Addr) (c c' d d' e e' : Nat) (w : World) (hl : l.length * 48 ≤ 140737488351232) (hh : hs.length * 32 ≤ 140737488351232) (hp : ps.length * 24 ≤ 140737488351232) (hb : ∀ p ∈ ps, p.2.2.length * 32 ≤ 140737488351232) (hpq : bks ps = bks qs)
    (hA : Row w A (qcells l)) (hA' : Row w A' (qcells l)) (hH : Row w H (hcells hs)) (hH' : Row w H' (hcells hs)) (hB : Books w B ps) (hB' : Books w B' qs) :
    Calls Try.prog 18 #[.agg #[.int .i64 most, .slice A l.length c, .int .i64 ba, .int .i64 ev, .int .i64 nw, .slice H hs.length d, .slice B ps.length e], .agg #[.int .i64 most, .slice A' l.length c', .int .i64 ba, .int .i64 ev, .int .i64 nw, .slice H' hs.length d', .slice B' qs.length e']] w fun x w' => x = .returned (.bool true) ∧ Below w.heap.size w w' := by
  have hQ := fun (w : World) hA hA' => Lib.hid (refSameQueue most most A A' c c' l l w (by unfold maxLen; omega) hA hA' true (by simp))
  have hS := fun (w : World) hH hH' => Lib.hid (refSameHeads H H' d d' hs hs w (by unfold maxLen; omega) true (by simp) hH hH')
  have hql : qs.length = ps.length := by rw [← bks_length, ← bks_length, hpq]
  have HPQ := Lib.hid hpq
  have HB := Lib.hid hb
  rw [hql]
  have x0 := (Bx.new w _ rfl _ (ckc most A c l ba ev nw H d hs B e ps) 28 rfl).alloc (.cells #[.int .i64 most, .slice A' l.length c', .int .i64 ba, .int .i64 ev, .int .i64 nw, .slice H' hs.length d', .slice B' ps.length e'] 28)
  have y0 := Bx.new (w.alloc (.cells #[.int .i64 most, .slice A l.length c, .int .i64 ba, .int .i64 ev, .int .i64 nw, .slice H hs.length d, .slice B ps.length e] 28)) (w.heap.size + 1) (by simp) _ [.int .i64 most, .slice A' l.length c', .int .i64 ba, .int .i64 ev, .int .i64 nw, .slice H' hs.length d', .slice B' ps.length e'] 28 rfl
  have hb0 : Below w.heap.size w ((w.alloc (.cells #[.int .i64 most, .slice A l.length c, .int .i64 ba, .int .i64 ev, .int .i64 nw, .slice H hs.length d, .slice B ps.length e] 28)).alloc (.cells #[.int .i64 most, .slice A' l.length c', .int .i64 ba, .int .i64 ev, .int .i64 nw, .slice H' hs.length d', .slice B' ps.length e'] 28)) := ((Below.refl _ _).alloc (Nat.le_refl _) _).alloc (by simp) _
  have hb1 : Below w.heap.size w _ := hb0
  have hA1 := (hA.alloc (.cells #[.int .i64 most, .slice A l.length c, .int .i64 ba, .int .i64 ev, .int .i64 nw, .slice H hs.length d, .slice B ps.length e] 28)).alloc (.cells #[.int .i64 most, .slice A' l.length c', .int .i64 ba, .int .i64 ev, .int .i64 nw, .slice H' hs.length d', .slice B' ps.length e'] 28)
  have hA1' := (hA'.alloc (.cells #[.int .i64 most, .slice A l.length c, .int .i64 ba, .int .i64 ev, .int .i64 nw, .slice H hs.length d, .slice B ps.length e] 28)).alloc (.cells #[.int .i64 most, .slice A' l.length c', .int .i64 ba, .int .i64 ev, .int .i64 nw, .slice H' hs.length d', .slice B' ps.length e'] 28)
  obtain ⟨a0, a1, a2, a3, a4, a5, a6⟩ := x0.get7
  obtain ⟨b0, b1, b2, b3, b4, b5, b6⟩ := y0.get7
  clear hpq hb hb1 hql
  go_enter Try.func18, Try.ntmps18
  go_wp2_with fail
  refine (hQ _ hA1 hA1').out.mono ?_
  rintro x w1 ⟨rfl, hbn⟩
  have hb1 := below_chain hb0 hbn
  have x1 := x0.below hbn
  have y1 := y0.below hbn
  clear a0 a1 a2 a3 a4 a5 a6 b0 b1 b2 b3 b4 b5 b6 x0 y0 hb0 hbn hQ hA1 hA1' hA hA'
  obtain ⟨a0, a1, a2, a3, a4, a5, a6⟩ := x1.get7
  obtain ⟨b0, b1, b2, b3, b4, b5, b6⟩ := y1.get7
  go_wp2_with fail
  refine (hS _ (hH.below hb1) (hH'.below hb1)).out.mono ?_
  rintro x w2 ⟨rfl, m2, hw2⟩
  subst hw2
  have hb2 : Below w.heap.size w (w1.drewN m2) := below_chain hb1 (below_of_drewN _ _ _)
  have x2 := x1.below (below_of_drewN _ _ m2)
  have y2 := y1.below (below_of_drewN _ _ m2)
  clear a0 a1 a2 a3 a4 a5 a6 b0 b1 b2 b3 b4 b5 b6 x1 y1 hb1 hS hH hH'
  obtain ⟨a0, a1, a2, a3, a4, a5, a6⟩ := x2.get7
  obtain ⟨b0, b1, b2, b3, b4, b5, b6⟩ := y2.get7
  go_wp2
  have hB2 := hB.below hb2
  have hB2' := hB'.below hb2
  clear a0 a1 a2 a3 a4 a5 a6 b0 b1 b2 b3 b4 b5 b6 hB hB'
  generalize w1.drewN m2 = v2 at *
  go_loopw [53] (fun i wr => ∃ k : Nat, k ≤ ps.length ∧ i = .int .i64 k ∧ Below v2.heap.size v2 wr) (fun i _ => ps.length - (intOf i).toNat)
  case atStart => exact ⟨0, Nat.zero_le _, rfl, Below.refl _ _⟩
  case round =>
    obtain ⟨k, hk, rfl, hbl⟩ := hrel
    have x3 := x2.below hbl
    have y3 := y2.below hbl
    have hB3 := hB2.below hbl
    have hB3' := hB2'.below hbl
    have hb3 := below_chain hb2 hbl
    by_cases hlt : k < ps.length
    · have hlt' : k < qs.length := by have := congrArg List.length HPQ.out; rw [bks_length, bks_length] at this; omega
      obtain ⟨g1, o1, rfl, j1, r1⟩ := hB3.get k hlt
      obtain ⟨g2, o2, rfl, j2, r2⟩ := hB3'.get k hlt'
      have he : qs[k].2.2 = ps[k].2.2 := by rw [← bks_get qs k hlt', ← bks_get ps k hlt]; congr 1; exact HPQ.out.symm
      rw [he] at j2 r2
      have hsm := HB.out _ (List.getElem_mem hlt)
      generalize ps[k].2.2 = bk at *
      generalize ps[k].1 = P1 at *
      generalize ps[k].2.1 = P2 at *
      generalize qs[k].1 = Q1 at *
      generalize qs[k].2.1 = Q2 at *
      have hE := fun (w : World) h1 h2 => Lib.hid (refSameBook P1 Q1 P2 Q2 bk bk w (by unfold maxLen; omega) true (by simp) h1 h2)
      have i0 : (0 : Int) ≤ (k : Int) := by omega
      have i1 : (k : Int) < (ps.length : Int) := by omega
      have a6 := x3.get7.2.2.2.2.2.2
      have b6 := y3.get7.2.2.2.2.2.2
      clear x2 y2 hB2 hB2' hB3 hB3' hb3 x3 y3 he hsm hlt' hb2
      go_wp2
      go_quiet (first | (go_at_call 38; refine Calls.quiet_of (hE _ (r1.drewN _) (r2.drewN _)).out) | fail)
      go_wp2
      go_roundw
      case rel => exact ⟨k + 1, by omega, by go_num, below_chain hbl (below_of_drewN _ _ _)⟩
      case measure => simp [intOf]; omega
    · clear x2 y2 hB2 hB2' hB3 hB3' x3 y3 hb2
      go_wp2
      go_ret
      exact ⟨rfl, hb3⟩
end Go.Proofs.Ytjcockcilkiggaa
