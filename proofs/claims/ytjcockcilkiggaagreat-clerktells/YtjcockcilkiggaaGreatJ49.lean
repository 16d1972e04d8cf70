/- The reference: ClerkTick where a book is due. It writes nothing that was there. -/
import Derived.Test.YtjcockcilkiggaaGreatJ48
import Derived.Test.YtjcockcilkiggaaGreatJ45
import Derived.Test.YtjcockcilkiggaaGreatJ42
import Derived.Deep.DeepCutAuto
namespace Go.Proofs.YtjcockcilkiggaaGreat
set_option maxRecDepth 100000
open Go.RowKit

set_option maxHeartbeats 8000000 in
theorem refClerkTick_due (most ba ev nw : Int) (l : List Ak) (hs : List Hd) (ps : List Bp) (A H B : Option Addr) (c d e : Nat) (w : World) (hA : Row w A (qcells l)) (hH : Row w H (hcells hs)) (hB : Books w B ps) (hg : CkGood ⟨most, l, ba, ev, nw, hs, bks ps⟩) (hcl : closedB ⟨most, l, ba, ev, nw, hs, bks ps⟩ = false) (hd : (nw + 1) % ev = 0) :
    Calls Tryz.prog 13 #[.agg #[.int .i64 most, .slice A l.length c, .int .i64 ba, .int .i64 ev, .int .i64 nw, .slice H hs.length d, .slice B ps.length e]] w (TickGives most ba ev (nw + 1) (l.drop ba.toNat) (hs ++ [nextOf (lastH hs) (prefMark (tickBk ⟨most, l, ba, ev, nw, hs, bks ps⟩) []) (nw + 1)]) (bks ps ++ [tickBk ⟨most, l, ba, ev, nw, hs, bks ps⟩]) true w) := by
  have hq : QGood most l := hg.queue
  have hl30 : l.length ≤ 30 := by have := hq.len; have := hq.m30; omega
  have hc40 : hs.length ≤ 40 := hg.chain.len
  have hc0 : 0 < hs.length := hg.chain.pos
  have hph : ps.length = hs.length := by
    have := hg.form
    unfold formBad at this
    dsimp only at this
    rw [bks_length] at this
    omega
  have hbk24 : ∀ p ∈ ps, p.2.2.length ≤ 1000 := fun p hp => by
    obtain ⟨i, hi, rfl⟩ := List.getElem_of_mem hp
    have := (hg.each i (by show i < (bks ps).length; rw [bks_length]; exact hi) (by show i < hs.length; omega)).1
    have e : (bks ps)[i]'(by rw [bks_length]; exact hi) = ps[i].2.2 := bks_get ps i hi
    have h24 := this.len
    have : ps[i].2.2.length ≤ 24 := e ▸ h24
    omega
  have hT0 := tickBk_good hg
  have hcl' : hs.length ≠ 40 ∧ nw ≠ 1000000000 := by simpa [closedB] using hcl
  obtain ⟨m, hpm⟩ : ∃ m, ps.length = m + 1 := ⟨ps.length - 1, by omega⟩
  obtain ⟨mh, hhm⟩ : ∃ mh, hs.length = mh + 1 := ⟨hs.length - 1, by omega⟩
  obtain ⟨bk, hbk⟩ : ∃ u, (ps[m]'(by omega)).2.2 = u := ⟨_, rfl⟩
  have hlb : lastBk (⟨most, l, ba, ev, nw, hs, bks ps⟩ : Ck) = bk := by
    rw [lastBk_at (m := m) (by show (bks ps).length = _; rw [bks_length]; exact hpm)]
    show (bks ps)[m]'_ = bk
    rw [bks_get ps m (by omega), hbk]
  have hgd : Good bk := by rw [← hlb]; exact lastBk_good hg
  have hnm : (Bin.srt (bk.map (·.1) ++ l.map (·.1))).length ≤ 24 := by
    have := hg.names
    rw [namesN, hlb, namesOf, if_pos rfl, List.append_nil] at this
    exact this
  have hrg := hg.range
  unfold rangeBad at hrg
  dsimp only at hrg
  obtain ⟨N, rfl⟩ : ∃ N : Nat, nw = (N : Int) := ⟨nw.toNat, by omega⟩
  obtain ⟨v0, rfl⟩ : ∃ v0 : Nat, ev = (v0 : Int) := ⟨ev.toNat, by omega⟩
  obtain ⟨b, rfl⟩ : ∃ b : Nat, ba = (b : Int) := ⟨ba.toNat, by omega⟩
  have hN : N ≤ 1000000000 := by omega
  have hv1 : 1 ≤ v0 := by omega
  have hv2 : v0 ≤ 1000 := by omega
  have hvz : ((v0 : Int) == 0) = false := beq_eq_false_iff_ne.2 (by omega)
  have cm : (((N : Int) + 1) % (v0 : Int) != 0) = false := by rw [hd]; rfl
  have hc : (decide (hs.length = 40) || decide ((N : Int) = 1000000000)) = false := hcl
  have hb30 : b ≤ 30 := by omega
  obtain ⟨j, hj⟩ : ∃ j, j = min b l.length := ⟨_, rfl⟩
  have hjb : j ≤ b := by omega
  have hjl : j ≤ l.length := by omega
  have hjt : l.take j = l.take b := by
    rw [hj]
    rcases Nat.le_total b l.length with h | h
    · rw [Nat.min_eq_left h]
    · rw [Nat.min_eq_right h, List.take_length, List.take_of_length_le h]
  have hjd : l.drop j = l.drop b := by
    rw [hj]
    rcases Nat.le_total b l.length with h | h
    · rw [Nat.min_eq_left h]
    · rw [Nat.min_eq_right h, List.drop_length, List.drop_of_length_le h]
  obtain ⟨T, hT⟩ : ∃ T, tickBk ⟨most, l, (b : Int), (v0 : Int), (N : Int), hs, bks ps⟩ = T := ⟨_, rfl⟩
  rw [hT] at hT0 ⊢
  have HT : Hid (setAll bk (l.take j) = T) := by show _ = _; rw [hjt, ← hT, tickBk, hlb]; rfl
  obtain ⟨pm, hpmk⟩ : ∃ pm, prefMark T [] = pm := ⟨_, rfl⟩
  rw [hpmk]
  obtain ⟨⟨ep, rt, pv, tm⟩, hlh⟩ : ∃ u, lastH hs = u := ⟨_, rfl⟩
  have hlg : HGood (ep, rt, pv, tm) := by rw [← hlh]; exact lastH_good hg.chain
  have hep : 0 ≤ ep ∧ ep ≤ 1000000 := ⟨hlg.1, hlg.2⟩
  have HXH : Hid (∀ h : mh < hs.length, hs[mh] = (ep, rt, pv, tm)) := fun _ => by rw [← lastH_at hhm]; exact hlh
  rw [hlh]
  obtain ⟨mk, hmk⟩ : ∃ mk, hmark (ep, rt, pv, tm) = mk := ⟨_, rfl⟩
  obtain ⟨hn, hhn⟩ : ∃ hn, hs ++ [((ep + 1, pm, mk, (N : Int) + 1) : Hd)] = hn := ⟨_, rfl⟩
  have hnx : nextOf (ep, rt, pv, tm) pm ((N : Int) + 1) = (ep + 1, pm, mk, (N : Int) + 1) := by rw [← hmk]; rfl
  rw [hnx, hhn, Int.toNat_natCast, ← hjd]
  obtain ⟨R, hR⟩ : ∃ R, l.drop j = R := ⟨_, rfl⟩
  rw [hR]
  have HR := Lib.hid hR
  have HN := Lib.hid hhn
  have HSt : Hid (∀ k (hk : k < l.length), setErr (setAll bk (l.take k)) l[k].1 l[k].2.1 = 0 ∧ setTo l[k].1 l[k].2.1 (setAll bk (l.take k)) = setAll bk (l.take (k + 1))) := fun k hk => setAll_step hgd hq.each hnm hk
  have hPx := fun (w : World) (P : Option Addr) (px : Nat) h => Lib.hid (refPrefix P px T [] w (by have := hT0.len; omega) (fun y hy => by have := hT0.value y hy; have := Bin.name_len (hT0.name y hy); omega) (by simp) h pm hpmk)
  have hHm := fun (w : World) => Lib.hid (refHMark ep rt pv tm w hlg mk hmk)
  have HJ := Lib.hid hj
  have HPM := Lib.hid hpm
  have HHM := Lib.hid hhm
  have HBK : Hid (∀ (qs : List Bp), bks qs = bks ps → ∃ h : m < qs.length, qs.length = m + 1 ∧ qs[m].2.2 = bk) := fun qs he => by
    have h1 : qs.length = m + 1 := by have := congrArg List.length he; rw [bks_length, bks_length] at this; omega
    refine ⟨by omega, h1, ?_⟩
    rw [← bks_get qs m (by omega), ← hbk, ← bks_get ps m (by omega)]
    congr 1
  have HGD : Hid (bk.length ≤ 24) := hgd.len
  have HPH := Lib.hid hph
  have HLX : Hid (T.length ≤ 1000) := by show _ ≤ _; have := hT0.len; omega
  have hp40 : ps.length ≤ 40 := by omega
  have hmh : mh < 40 := by omega
  have hms : m < 40 := by omega
  clear hpm hhm hph hg hcl hcl' hd hrg hnm hgd hq hT hT0 hjt hjd hlb hbk hpmk hlh hlg hmk hnx hhn hR hj hc0
  have hb0 : Below w.heap.size w ((w.alloc (.cells #[.int .i64 most, .slice A l.length c, .int .i64 (b : Int), .int .i64 (v0 : Int), .int .i64 (N : Int), .slice H hs.length d, .slice B ps.length e] 28)).alloc (.cells #[.int .i64 0, .slice none 0 0, .int .i64 0, .int .i64 0, .int .i64 0, .slice none 0 0, .slice none 0 0] 28)) := ((Below.refl _ _).alloc (Nat.le_refl _) _).alloc (by simp) _
  have x0 := (Bx.new w _ rfl _ [.int .i64 most, .slice A l.length c, .int .i64 (b : Int), .int .i64 (v0 : Int), .int .i64 (N : Int), .slice H hs.length d, .slice B ps.length e] 28 rfl).alloc (.cells #[.int .i64 0, .slice none 0 0, .int .i64 0, .int .i64 0, .int .i64 0, .slice none 0 0, .slice none 0 0] 28)
  have z0 := Bx.new (w.alloc (.cells #[.int .i64 most, .slice A l.length c, .int .i64 (b : Int), .int .i64 (v0 : Int), .int .i64 (N : Int), .slice H hs.length d, .slice B ps.length e] 28)) (w.heap.size + 1) (by simp) _ [.int .i64 0, .slice none 0 0, .int .i64 0, .int .i64 0, .int .i64 0, .slice none 0 0, .slice none 0 0] 28 rfl
  obtain ⟨a0, a1, a2, a3, a4, a5, a6⟩ := x0.get7
  have hOw := fun (w : World) h1 h2 h3 => Lib.hid (refOwnClerk most (b : Int) (v0 : Int) (N : Int) l hs ps A H B c d e w (by omega) (by omega) (by omega) hbk24 h1 h2 h3)
  have hCl := fun (w : World) => Lib.hid (refClosed most (b : Int) (v0 : Int) (N : Int) A H B l.length c hs.length d ps.length e w _ rfl)
  rw [hc] at hCl
  have hA0 := hA.below hb0
  have hH0 := hH.below hb0
  have hB0 := hB.below hb0
  clear hA hH hB hbk24
  go_enter Tryz.func13, Tryz.ntmps13
  go_wp2_with fail
  refine (hOw _ hA0 hH0 hB0).out.mono ?_
  rintro xx w1 ⟨Dq, dq, E, f, F, m1, qs, rfl, hqs, hO, hb1⟩
  have hlq := fun k hk => (hO.q.lt k hk).2
  have hlh := fun k hk => (hO.hd.lt k hk).2
  have hlk := fun k hk => (hO.bk.lt k hk).2
  have hle := fun p (hp : p ∈ qs) k hk => ((hO.each p hp).lt k hk).2
  have hb12 := below_chain hb1 (balloc (Below.refl w1.heap.size w1) (.cells #[.int .i64 most, .slice Dq l.length dq, .int .i64 (b : Int), .int .i64 (v0 : Int), .int .i64 (N : Int), .slice E hs.length f, .slice F qs.length m1] 28))
  have x2 := x0.below hb12
  have z2 := z0.below hb12
  have o2 := Bx.new w1 _ rfl _ [.int .i64 most, .slice Dq l.length dq, .int .i64 (b : Int), .int .i64 (v0 : Int), .int .i64 (N : Int), .slice E hs.length f, .slice F qs.length m1] 28 rfl
  have r2 := clerk_rowR w1 [.int .i64 most, .slice Dq l.length dq, .int .i64 (b : Int), .int .i64 (v0 : Int), .int .i64 (N : Int), .slice E hs.length f, .slice F qs.length m1] rfl
  have hO2 := hO.below (balloc (Below.refl w1.heap.size w1) (.cells #[.int .i64 most, .slice Dq l.length dq, .int .i64 (b : Int), .int .i64 (v0 : Int), .int .i64 (N : Int), .slice E hs.length f, .slice F qs.length m1] 28))
  have hb02 := below_chain hb0 hb12
  have hz2 := z0.lt
  have hs1 := hb1.size
  clear a0 a1 a2 a3 a4 a5 a6 x0 z0 hA0 hH0 hB0 hO hb1 hb12 hb0 hOw
  obtain ⟨a0, a1, a2, a3, a4, a5, a6⟩ := x2.get7
  go_wp2_with fail
  refine (hCl _).out.mono ?_
  rintro xx w3 ⟨rfl, hb3⟩
  have x3 := x2.below hb3
  have z3 := z2.below hb3
  have o3 := o2.below hb3
  have hO3 := hO2.below hb3
  have r3 := own_belowN r2 hb3
  have hb03 := below_chain hb02 hb3
  clear a0 a1 a2 a3 a4 a5 a6 x2 z2 o2 r2 hO2 hb3 hb02 hCl
  generalize w1.heap.size = p at *
  have hO4 := hO3.mono (b' := w.heap.size + 2) (by have : (((w.alloc (.cells #[.int .i64 most, .slice A l.length c, .int .i64 (b : Int), .int .i64 (v0 : Int), .int .i64 (N : Int), .slice H hs.length d, .slice B ps.length e] 28)).alloc (.cells #[.int .i64 0, .slice none 0 0, .int .i64 0, .int .i64 0, .int .i64 0, .slice none 0 0, .slice none 0 0] 28))).heap.size = w.heap.size + 2 := by simp
                                                   omega)
  have hpz : w.heap.size + 2 ≤ p := by have : (((w.alloc (.cells #[.int .i64 most, .slice A l.length c, .int .i64 (b : Int), .int .i64 (v0 : Int), .int .i64 (N : Int), .slice H hs.length d, .slice B ps.length e] 28)).alloc (.cells #[.int .i64 0, .slice none 0 0, .int .i64 0, .int .i64 0, .int .i64 0, .slice none 0 0, .slice none 0 0] 28))).heap.size = w.heap.size + 2 := by simp
                                       omega
  obtain ⟨hqm, hqm1, hq2⟩ := HBK.out qs hqs
  obtain ⟨gB, oB, rfl, jB, rB⟩ := hO4.books.get m hqm
  have hxb := hO4.each _ (List.getElem_mem hqm)
  rw [hq2] at jB hxb
  clear rB
  generalize qs[m].1 = P1 at *
  generalize qs[m].2.1 = P2 at *
  have hS5 : TS (w.heap.size + 2) p (w.heap.size + 1) w.heap.size [.int .i64 0, .slice none 0 0, .int .i64 0, .int .i64 0, .int .i64 0, .slice none 0 0, .slice none 0 0] [.int .i64 most, .slice A l.length c, .int .i64 (b : Int), .int .i64 (v0 : Int), .int .i64 (N : Int), .slice H hs.length d, .slice B ps.length e] most (b : Int) (v0 : Int) ((N : Int) + 1) l Dq dq Dq l.length dq hs E f qs (some ⟨gB, oB, none⟩) m1 bk P1 P2 (w3.setCell ⟨p, 4, none⟩ (.int .i64 ((N : Int) + 1))) := by
    refine ⟨o3.set 4 (.int .i64 ((N : Int) + 1)), ⟨_, (own_baseQ (r3.stored 4 (.int .i64 ((N : Int) + 1))).1 hpz)⟩, z3.far (h := p) (by omega) 4 _, x3.far (h := p) (by omega) 4 _,
      ⟨own_far hO4.q (fun k hk => by have := hlq k hk; omega) 4 _, own_far hO4.hd (fun k hk => by have := hlh k hk; omega) 4 _, own_far hO4.bk (fun k hk => by have := hlk k hk; omega) 4 _, fun q hq => own_far (hO4.each q hq) (fun k hk => by have := hle q hq k hk; omega) 4 _⟩,
      own_far hxb (apart_clerk hxb r3 (by decide)) 4 _, by omega, by omega, hpz⟩
  have hgne : gB ≠ p := hlk gB rfl |> fun h => by omega
  have jB5 : ((w3.setCell ⟨p, 4, none⟩ (.int .i64 ((N : Int) + 1)))).cell? ⟨gB, oB + m, none⟩ = some (.slice P1 bk.length P2) := by
    refine (World.cell?_setCell_other w3 ⟨p, 4, none⟩ ⟨gB, oB + m, none⟩ _ (fun e => hgne ?_)).trans jB
    injection e with e
    exact e.symm
  have hb05 := hb03.setCell (p := ⟨p, 4, none⟩) (by show w.heap.size ≤ p; omega) (.int .i64 ((N : Int) + 1))
  obtain ⟨a0, a1, a2, a3, a4, a5, a6⟩ := x3.get7
  obtain ⟨p0, p1, p2, p3, p4, p5, p6⟩ := o3.get7
  have f4 := o3.f 4 (by simp)
  obtain ⟨c0, c1, c2, c3, c4, c5, c6⟩ := hS5.c.get7
  obtain ⟨o0, o1, o2, o4, o4', o5, o6⟩ := hS5.o.get7
  have hcq : l.length ≤ dq := own_capE hO4.q
  have HQ := Lib.hid hqs
  have e7 : (qs.length : Int) - 1 = (m : Int) := by omega
  have i0 : (0 : Int) ≤ (m : Int) := by omega
  have i1 : (m : Int) < (qs.length : Int) := by omega
  clear hlq hlh hlk hle x3 z3 o3 r3 hO3 hO4 hb03 hxb hgne jB hq2 hqs HBK hs1
  go_wp2

  clear a0 a1 a2 a3 a4 a5 a6 p0 p1 p2 p3 p4 p5 p6 f4 c0 c1 c2 c3 c4 c5 c6 o0 o1 o2 o4 o4' o5 o6 jB5 e7 i0 i1
  generalize (w3.setCell ⟨p, 4, none⟩ (.int .i64 ((N : Int) + 1))) = w5 at *
  go_loopw [5, 6] (fun vb ik wr => ∃ (k : Nat) (X : List Ent) (P : Option Addr) (px : Nat) (R : List Ak) (D : Option Addr) (dR : Nat), k ≤ j ∧ vb = .slice P X.length px ∧ ik = .int .i64 (k : Int) ∧ Hid (setAll bk (l.take k) = X) ∧ Hid (l.drop k = R) ∧ R.length ≤ dR ∧ Hid (∀ u b', u.ownsRow b' 31 4 (.slice Dq l.length dq) l.length (qcells l) → Row u D (qcells R)) ∧ TS (w.heap.size + 2) p (w.heap.size + 1) w.heap.size [.int .i64 0, .slice none 0 0, .int .i64 0, .int .i64 0, .int .i64 0, .slice none 0 0, .slice none 0 0] [.int .i64 most, .slice A l.length c, .int .i64 (b : Int), .int .i64 (v0 : Int), .int .i64 (N : Int), .slice H hs.length d, .slice B ps.length e] most (b : Int) (v0 : Int) ((N : Int) + 1) l Dq dq D R.length dR hs E f qs (some ⟨gB, oB, none⟩) m1 X P px wr ∧ Below w.heap.size w wr) (fun _ ik _ => j - (intOf ik).toNat)
  case atStart => exact ⟨0, bk, P1, P2, l, Dq, dq, Nat.zero_le _, rfl, rfl, rfl, rfl, hcq, fun u b' h => Row.ownN h, hS5, hb05⟩
  case round =>
    obtain ⟨k, X, P, px, R1, D, d1, hk, rfl, rfl, HX, HR1, hcap, HD, hS, hbw⟩ := hrel
    clear hS5 hb05 hcq
    have hplt := hS.plt
    have hwz : w.heap.size ≤ p := by omega
    obtain ⟨c0, c1, c2, c3, c4, c5, c6⟩ := hS.c.get7
    obtain ⟨o0, o1, o2, o3, o4, o5, o6⟩ := hS.o.get7
    by_cases hlt : k < j
    case pos =>
      have hkl : k < l.length := by omega
      obtain ⟨hs1, hs2⟩ := HSt.out k hkl
      rw [HX.out] at hs1 hs2
      obtain ⟨⟨na, va, nu, tg⟩, hy⟩ : ∃ y, l[k] = y := ⟨_, rfl⟩
      rw [hy] at hs1 hs2
      dsimp only at hs1 hs2
      obtain ⟨R2, hR2⟩ : ∃ R2, l.drop (k + 1) = R2 := ⟨_, rfl⟩
      have hRc : R1 = (na, va, nu, tg) :: R2 := by rw [← HR1.out, List.drop_eq_getElem_cons hkl, hy, hR2]
      subst hRc
      have HR2 := Lib.hid hR2
      obtain ⟨X2, hX2⟩ : ∃ X2, setAll bk (l.take (k + 1)) = X2 := ⟨_, rfl⟩
      rw [hX2] at hs2
      have HX2 := Lib.hid hX2
      obtain ⟨gX, _, _, _⟩ := (setErr_ok _ _ _).1 hs1
      have hna : na.length ≤ maxLen := by
        obtain ⟨_, h2, _⟩ := (setErr_ok _ _ _).1 hs1
        have := Bin.name_len h2
        unfold maxLen; omega
      have hSt := fun (w : World) h => Lib.hid (refSetO P px X na va w (by have := gX.len; omega) hna (fun x hx => by have := Bin.name_len (gX.name x hx); unfold maxLen; omega) h)
      rw [hs2] at hSt
      obtain ⟨g, off, hDe, j0, j1, j2, j3⟩ := (HD.out _ _ hS.k.q).ask 0 (by simp)
      rw [Nat.zero_mul, Nat.add_zero] at j0 j1 j2 j3
      simp only [List.getElem_cons_zero] at j0 j1 j2 j3
      subst hDe
      have hlen : ((na, va, nu, tg) :: R2).length = R2.length + 1 := rfl
      rw [hlen] at hcap hS o1
      have HD2 : Hid (∀ u b', u.ownsRow b' 31 4 (.slice Dq l.length dq) l.length (qcells l) → Row u ((some (⟨g, off, none⟩ : Addr)).map (·.add 4)) (qcells R2)) := fun u b' h => Row.tailQ (HD.out u b' h)
      have hnil : R2.length = 0 → R2 = [] := List.length_eq_zero_iff.1
      have HL2 : Hid (R2.length = R2.length) := rfl
      generalize hr2 : R2.length = r2 at hcap hS o1 hnil HL2
      have HR2L := Lib.hid hr2
      have HNIL := Lib.hid hnil
      have K1 : decide ((k : Int) < (b : Int)) = true := decide_eq_true (by omega)
      have K2 : decide ((0 : Int) < ((r2 + 1 : Nat) : Int)) = true := decide_eq_true (by omega)
      have K3 : (k : Int) < (b : Int) := by omega
      have K4 : (0 : Int) < (r2 : Int) + 1 := by omega
      have K5 : (1 : Int) ≤ (r2 : Int) + 1 := by omega
      have hd12 : d1 = 1 ∨ ∃ d2, d1 = d2 + 2 := by
        rcases Nat.lt_or_ge 1 d1 with h | h
        · exact .inr ⟨d1 - 2, by omega⟩
        · exact .inl (by omega)
      have hSA := hS.below (balloc (Below.refl wr.heap.size wr) (.cells #[.string (S na), .string (S va), .int .u64 (nu : Int), .int .u64 (tg : Int)] 31))
      have hpA : p < wr.heap.size := hS.o.lt
      obtain ⟨s0, s1, s2, s3, s4, s5, s6⟩ := hSA.o.get7
      have fA := hSA.o.f 1 (by simp)
      clear hs1 hs2 hy hX2 gX hna hR2 HX HR1 HD hnil HL2 hlen hr2
      rcases hd12 with rfl | ⟨d2, rfl⟩
      · have hr0 : r2 = 0 := by omega
        subst hr0
        have hR0 := HNIL.out rfl
        subst hR0
        have hS7 := (hS.setD (some ⟨g, off, none⟩) 0 0).below (balloc (Below.refl _ _) (.cells #[.string (S na), .string (S va), .int .u64 (nu : Int), .int .u64 (tg : Int)] 31))
        have x7 := Bx.new (wr.setCell ⟨p, 1, none⟩ (.slice (some ⟨g, off, none⟩) 0 0)) wr.heap.size (by simp [World.setCell]) _ [.string (S na), .string (S va), .int .u64 (nu : Int), .int .u64 (tg : Int)] 31 rfl
        have hb7 := balloc (hbw.setCell (p := ⟨p, 1, none⟩) (by show w.heap.size ≤ p; omega) (.slice (some ⟨g, off, none⟩) 0 0)) (.cells #[.string (S na), .string (S va), .int .u64 (nu : Int), .int .u64 (tg : Int)] 31)
        have rX := Row.ownN hS7.x
        obtain ⟨⟨y0, y1, y2, y3⟩, _⟩ := x7.get4
        clear hSA hS
        go_wp2_with fail
        refine (hSt _ rX).out.mono ?_
        rintro xx w8 ⟨P3, p3, rfl, hown3, hb8⟩
        have hS8 := (hS7.below hb8).book (own_baseQ hown3 (by have := hS7.o.lt; omega))
        have hb08 := below_chain hb7 hb8
        clear hSt hS7 x7 hb7 rX y0 y1 y2 y3 hown3 hb8 s0 s1 s2 s3 s4 s5 s6 fA c0 c1 c2 c3 c4 c5 c6 o0 o1 o2 o3 o4 o5 o6 j0 j1 j2 j3
        go_wp2
        go_roundw
        case rel => exact ⟨k + 1, X2, P3, p3, [], some ⟨g, off, none⟩, 0, by omega, rfl, by go_num, HX2, HR2, by simp, fun _ _ _ => Row.nil_ _ _, hS8, hb08⟩
        case measure => simp [intOf]; omega
      · skip
        have hS7 := (hS.setD (some ⟨g, off + 4, none⟩) r2 (d2 + 1)).below (balloc (Below.refl _ _) (.cells #[.string (S na), .string (S va), .int .u64 (nu : Int), .int .u64 (tg : Int)] 31))
        have x7 := Bx.new (wr.setCell ⟨p, 1, none⟩ (.slice (some ⟨g, off + 4, none⟩) r2 (d2 + 1))) wr.heap.size (by simp [World.setCell]) _ [.string (S na), .string (S va), .int .u64 (nu : Int), .int .u64 (tg : Int)] 31 rfl
        have hb7 := balloc (hbw.setCell (p := ⟨p, 1, none⟩) (by show w.heap.size ≤ p; omega) (.slice (some ⟨g, off + 4, none⟩) r2 (d2 + 1))) (.cells #[.string (S na), .string (S va), .int .u64 (nu : Int), .int .u64 (tg : Int)] 31)
        have rX := Row.ownN hS7.x
        obtain ⟨⟨y0, y1, y2, y3⟩, _⟩ := x7.get4
        clear hSA hS
        go_wp2_with fail
        refine (hSt _ rX).out.mono ?_
        rintro xx w8 ⟨P3, p3, rfl, hown3, hb8⟩
        have hS8 := (hS7.below hb8).book (own_baseQ hown3 (by have := hS7.o.lt; omega))
        have hb08 := below_chain hb7 hb8
        clear hSt hS7 x7 hb7 rX y0 y1 y2 y3 hown3 hb8 s0 s1 s2 s3 s4 s5 s6 fA c0 c1 c2 c3 c4 c5 c6 o0 o1 o2 o3 o4 o5 o6 j0 j1 j2 j3
        go_wp2
        go_roundw
        case rel => exact ⟨k + 1, X2, P3, p3, R2, some ⟨g, off + 4, none⟩, d2 + 1, by omega, rfl, by go_num, HX2, HR2, by have := HR2L.out; omega, HD2, by rw [HR2L.out]; exact hS8, hb08⟩
        case measure => simp [intOf]; omega
    case neg =>
      have hkj : k = j := by omega
      subst hkj
      have hXT : X = T := by rw [← HX.out]; exact HT.out
      subst hXT
      have hRR : R1 = R := by rw [← HR1.out]; exact HR.out
      subst hRR
      go_upto_region 9 with fail
      go_cut [43] (fun v wx => v = .bool false ∧ wx = wr)
      case first =>
        have HR1' := HR1
        clear hPx hHm HT HR HX HR1 HD hS
        by_cases hkb : k < b
        · have hr0 : R1.length = 0 := by rw [← HR1'.out, List.length_drop]; have := HJ.out; omega
          rw [hr0] at o1
          have K1 : decide ((k : Int) < (b : Int)) = true := decide_eq_true (by omega)
          have K3 : (k : Int) < (b : Int) := by omega
          go_wp2_with fail
          go_meet
          case rel => exact ⟨rfl, rfl⟩
        · have K1 : decide ((k : Int) < (b : Int)) = false := decide_eq_false (by omega)
          have K3 : ¬ (k : Int) < (b : Int) := by omega
          go_wp2_with fail
          go_meet
          case rel => exact ⟨rfl, rfl⟩
      case rest =>
        obtain ⟨rfl, hwx⟩ := hcut
        have hwx := hwx.symm
        subst hwx
        have hqm0 := Lib.hid hqm1
        have hhm := HHM.out
        obtain ⟨gE, oE, hEe, h1, h2, h3, h4⟩ := (Row.ownN hS.k.hd).head mh (by omega)
        have hxx := HXH.out (by omega)
        rw [hxx] at h1 h2 h3 h4
        dsimp only at h1 h2 h3 h4
        subst hEe
        clear hxx HXH
        have hpA : p < wr.heap.size := hS.o.lt
        have hltE : ∀ k, (Value.slice (some ⟨gE, oE, none⟩) hs.length f).ownBlock = some k → w.heap.size + 2 ≤ k ∧ k < wr.heap.size := fun k hk => hS.k.hd.lt k hk
        have hSA := hS.below (balloc (Below.refl wr.heap.size wr) (.cells #[.int .i64 ep, .int .u64 (rt : Int), .int .u64 (pv : Int), .int .i64 tm] 45))
        have hbA := balloc hbw (.cells #[.int .i64 ep, .int .u64 (rt : Int), .int .u64 (pv : Int), .int .i64 tm] 45)
        have tA := Bx.new wr wr.heap.size rfl _ [.int .i64 ep, .int .u64 (rt : Int), .int .u64 (pv : Int), .int .i64 tm] 45 rfl
        clear hS hbw
        go_upto_region 15 with fail
        generalize wr.alloc (.cells #[.int .i64 ep, .int .u64 (rt : Int), .int .u64 (pv : Int), .int .i64 tm] 45) = wA at *
        clear hqm1 hhm h1 h2 h3 h4 c0 c1 c2 c3 c4 c5 c6 o0 o1 o2 o3 o4 o5 o6
        have hwA : w.heap.size + 2 ≤ wA.heap.size := by have := hSA.o.lt; omega
        go_cut [] (fun wx => ∃ (E2 : Option Addr) (f2 : Nat), TS (w.heap.size + 2) p (w.heap.size + 1) w.heap.size [.int .i64 0, .slice none 0 0, .int .i64 0, .int .i64 0, .int .i64 0, .slice none 0 0, .slice none 0 0] [.int .i64 most, .slice A l.length c, .int .i64 (b : Int), .int .i64 (v0 : Int), .int .i64 (N : Int), .slice H hs.length d, .slice B ps.length e] most (b : Int) (v0 : Int) ((N : Int) + 1) l Dq dq D R1.length d1 hn E2 f2 qs (some ⟨gB, oB, none⟩) m1 X P px wx ∧ Below w.heap.size w wx)
        case first =>
          have hbc0 := bdrew (Below.refl wA.heap.size wA)
          have e5 := (hSA.o.below hbc0).get7.2.2.2.2.2.1
          have s1 : IntKind.i64.wrap (ep + 1) = ep + 1 := by rw [IntKind.wrap_i64]; omega
          clear HD HX HR1 HQ
          refine wp_region_held_drew (S := fun W => W.cell? ⟨p, 4, none⟩ = some (.int .i64 ((N : Int) + 1)) ∧ W.cell? ⟨wr.heap.size, 0, none⟩ = some (.int .i64 ep) ∧ W.cell? ⟨wr.heap.size, 1, none⟩ = some (.int .u64 (rt : Int)) ∧ W.cell? ⟨wr.heap.size, 2, none⟩ = some (.int .u64 (pv : Int)) ∧ W.cell? ⟨wr.heap.size, 3, none⟩ = some (.int .i64 tm)) (by kernel_rfl) ⟨(hSA.o.below hbc0).get7.2.2.2.2.1, (tA.below hbc0).get4.1⟩ (fun hHeld => ?_)
          refine wpAnyH_take (i := 0) (v := ?_) rfl (by kernel_rfl) (by kernel_rfl) (by kernel_rfl) (fun _ _ _ h => h) (Or.inl ⟨by rfl, ?_⟩) (by assumption) ?_
          rotate_left
          · intro wt hSt
            try dsimp only at hSt
            first | (go_simp; done) | (go_simp; with_reducible rfl)
          simp only [Act.put, List.setIfInBounds_toArray, List.set_cons_zero, List.set_cons_succ, List.getElem_toArray, List.getElem_cons_zero]
          refine wpAnyH_take (i := 2) (v := ?_) rfl (by kernel_rfl) (by kernel_rfl) (by kernel_rfl) (fun _ _ _ h => h) (Or.inl ⟨by rfl, ?_⟩) (by assumption) ?_
          rotate_left
          · intro wt hSt
            try dsimp only at hSt
            first | (go_simp; done) | (go_simp; with_reducible rfl)
          simp only [Act.put, List.setIfInBounds_toArray, List.set_cons_zero, List.set_cons_succ, List.getElem_toArray, List.getElem_cons_zero, List.getElem_cons_succ]
          refine wpAnyH_take (i := 3) (v := ?_) rfl (by kernel_rfl) (by kernel_rfl) (by kernel_rfl) (fun _ _ _ h => h) (Or.inl ⟨by rfl, ?_⟩) (by assumption) ?_
          rotate_left
          · intro wt hSt
            try dsimp only at hSt
            first | (go_simp; done) | (go_simp; with_reducible rfl)
          simp only [Act.put, List.setIfInBounds_toArray, List.set_cons_zero, List.set_cons_succ, List.getElem_toArray, List.getElem_cons_zero, List.getElem_cons_succ]
          refine wpAnyH_take (i := 4) (v := ?_) rfl (by kernel_rfl) (by kernel_rfl) (by kernel_rfl) (fun _ _ _ h => h) (Or.inl ⟨by rfl, ?_⟩) (by assumption) ?_
          rotate_left
          · intro wt hSt
            try dsimp only at hSt
            first | (go_simp; done) | (go_simp; with_reducible rfl)
          simp only [Act.put, List.setIfInBounds_toArray, List.set_cons_zero, List.set_cons_succ, List.getElem_toArray, List.getElem_cons_zero, List.getElem_cons_succ]
          refine wpAnyH_take (i := 5) (v := ?_) rfl (by kernel_rfl) (by kernel_rfl) (by kernel_rfl) (fun _ _ _ h => h) (Or.inl ⟨by rfl, ?_⟩) (by assumption) ?_
          rotate_left
          · intro wt hSt
            try dsimp only at hSt
            first | (go_simp; done) | (go_simp; with_reducible rfl)
          simp only [Act.put, List.setIfInBounds_toArray, List.set_cons_zero, List.set_cons_succ, List.getElem_toArray, List.getElem_cons_zero, List.getElem_cons_succ]
          refine wpAnyH_take (i := 7) (v := ?_) rfl (by kernel_rfl) (by kernel_rfl) (by kernel_rfl) (fun _ _ _ h => h) (Or.inl ⟨by rfl, ?_⟩) (by assumption) ?_
          rotate_left
          · intro wt hSt
            try dsimp only at hSt
            first | (go_simp; done) | (go_simp; with_reducible rfl)
          simp only [Act.put, List.setIfInBounds_toArray, List.set_cons_zero, List.set_cons_succ, List.getElem_toArray, List.getElem_cons_zero, List.getElem_cons_succ]
          refine wpAnyH_take (i := 9) (v := ?_) rfl (by kernel_rfl) (by kernel_rfl) (by kernel_rfl) (fun _ _ _ h => h) (Or.inl ⟨by rfl, ?_⟩) (by assumption) ?_
          rotate_left
          · intro wt hSt
            try dsimp only at hSt
            first | (go_simp; done) | (go_simp; with_reducible rfl)
          simp only [Act.put, List.setIfInBounds_toArray, List.set_cons_zero, List.set_cons_succ, List.getElem_toArray, List.getElem_cons_zero, List.getElem_cons_succ]
          refine wpAnyH_take (i := 10) (v := ?_) rfl (by kernel_rfl) (by kernel_rfl) (by kernel_rfl) (fun _ _ _ h => h) (Or.inl ⟨by rfl, ?_⟩) (by assumption) ?_
          rotate_left
          · intro wt hSt
            try dsimp only at hSt
            first | (go_simp; done) | (go_simp; with_reducible rfl)
          simp only [Act.put, List.setIfInBounds_toArray, List.set_cons_zero, List.set_cons_succ, List.getElem_toArray, List.getElem_cons_zero, List.getElem_cons_succ]
          refine wpAnyH_ready (rs := [1, 6]) (by kernel_rfl) (by simp) ?_
          refine AllReadyH.cons rfl (fun K hK => ?_) (AllReadyH.cons rfl (fun K hK => ?_) (AllReadyH.nil))
          · skip
            go_simp
            refine hK.out _ _ ⟨(hSA.o.below hbc0).get7.2.2.2.2.1, (tA.below hbc0).get4.1⟩ (fun hHeldN => ?_)
            clear hK K hHeld
            have hHeld := hHeldN
            clear hHeldN
            refine wpAnyH_ready (rs := [6]) (by kernel_rfl) (by simp) ?_
            refine AllReadyH.cons rfl (fun K hK => ?_) (AllReadyH.nil)
            go_simp
            go_at_call 30
            refine (hPx _ P px (Row.ownN (own_belowN hSA.x hbc0))).out.mono ?_
            rintro xx u1 ⟨rfl, hn1⟩
            have hbc1 := below_chain hbc0 hn1
            clear e5
            have e5 := (hSA.o.below hbc1).get7.2.2.2.2.2.1
            go_wp2_with fail
            refine hK.out _ _ ⟨(hSA.o.below hbc1).get7.2.2.2.2.1, (tA.below hbc1).get4.1⟩ (fun hHeldN => ?_)
            clear hK K hHeld
            have hHeld := hHeldN
            clear hHeldN
            refine wpAnyH_ready (rs := [8]) (by kernel_rfl) (by simp) ?_
            refine AllReadyH.cons rfl (fun K hK => ?_) (AllReadyH.nil)
            go_simp
            go_at_call 42
            refine (hHm _).out.mono ?_
            rintro xx u2 ⟨rfl, hn2⟩
            have hbc2 := below_chain hbc1 hn2
            clear e5
            have e5 := (hSA.o.below hbc2).get7.2.2.2.2.2.1
            go_wp2_with fail
            refine hK.out _ _ ⟨(hSA.o.below hbc2).get7.2.2.2.2.1, (tA.below hbc2).get4.1⟩ (fun hHeldN => ?_)
            clear hK K hHeld
            have hHeld := hHeldN
            clear hHeldN
            refine wpAnyH_take (i := 11) (v := ?_) rfl (by kernel_rfl) (by kernel_rfl) (by kernel_rfl) (fun _ _ _ h => h) (Or.inl ⟨by rfl, ?_⟩) (by assumption) ?_
            rotate_left
            · intro wt hSt
              try dsimp only at hSt
              first | (go_simp; done) | (go_simp; with_reducible rfl)
            simp only [Act.put, List.setIfInBounds_toArray, List.set_cons_zero, List.set_cons_succ, List.getElem_toArray, List.getElem_cons_zero, List.getElem_cons_succ]
            refine wpAnyH_ready (rs := [12]) (by kernel_rfl) (by simp) ?_
            refine AllReadyH.cons rfl (fun K hK => ?_) (AllReadyH.nil)
            go_simp
            have hbc3 : Below wA.heap.size wA (u2.alloc (.cells #[.int .i64 (ep + 1), .int .u64 (pm : Int), .int .u64 (mk : Int), .int .i64 ((N : Int) + 1)] 45)) := balloc hbc2 (.cells #[.int .i64 (ep + 1), .int .u64 (pm : Int), .int .u64 (mk : Int), .int .i64 ((N : Int) + 1)] 45)
            clear e5
            have e5 := (hSA.o.below hbc3).get7.2.2.2.2.2.1
            refine hK.out _ _ ⟨(hSA.o.below hbc3).get7.2.2.2.2.1, (tA.below hbc3).get4.1⟩ (fun hHeldN => ?_)
            clear hK K hHeld
            have hHeld := hHeldN
            clear hHeldN
            refine wpAnyH_ready (rs := [13]) (by kernel_rfl) (by simp) ?_
            refine AllReadyH.cons rfl (fun K hK => ?_) (AllReadyH.nil)
            refine step_app_heads0 rfl (.tmp 72) (.tmp 83) rfl (w.heap.size + 2) (.slice (some ⟨gE, oE, none⟩) hs.length f) hs ?_ (own_belowN hSA.k.hd hbc3) (some ⟨u2.heap.size, 0, none⟩) 1 [(ep + 1, pm, mk, (N : Int) + 1)] ?_ (Row.new _ _ _ _ _ rfl rfl) (by simp; omega) (Nat.le_trans hwA hbc3.size) ?_
            · first | rfl | simp [Act.eval, Act.put]
            · first | rfl | simp [Act.eval, Act.put]
            intro v7 w7 hown7 hgrow7
            rw [HN.out] at hown7
            obtain ⟨E2, f2, rfl⟩ := own_shape hown7
            have hS3 := hSA.below hbc3
            have o7 := hS3.oH hgrow7
            have t7 := (tA.below hbc3).kept hgrow7 (fun e => by have := (hltE _ e.symm).2; omega)
            have hS8 := hS3.growH hgrow7 hown7
            have hb8 := ((below_chain hbA hbc3).grown hgrow7 (below_chain hbA hbc3).size (fun j hj => by have := (hltE _ hj).1; omega)).setCell (p := ⟨p, 5, none⟩) (by show w.heap.size ≤ p; omega) (.slice E2 hn.length f2)
            have o75 := o7.get7.2.2.2.2.2.1
            have f75 := o7.f 5 (by simp)
            refine hK.out _ _ ⟨o7.get7.2.2.2.2.1, t7.get4.1⟩ (fun hHeldN => ?_)
            clear hK K hHeld
            have hHeld := hHeldN
            clear hHeldN
            try simp only [Act.put, List.setIfInBounds_toArray, List.set_cons_zero, List.set_cons_succ, List.getElem_toArray, List.getElem_cons_zero, List.getElem_cons_succ]
            refine wpAnyH_take (i := 14) (v := ?_) rfl (by kernel_rfl) (by kernel_rfl) (by kernel_rfl) (fun _ _ _ h => h) (Or.inl ⟨by rfl, ?_⟩) (by assumption) ?_
            rotate_left
            · intro wt hSt
              try dsimp only at hSt
              first | (go_simp; done) | (go_simp; with_reducible rfl)
            simp only [Act.put, List.setIfInBounds_toArray, List.set_cons_zero, List.set_cons_succ, List.getElem_toArray, List.getElem_cons_zero, List.getElem_cons_succ]
            refine wpAnyH_ready (rs := [15]) (by kernel_rfl) (by simp) ?_
            refine AllReadyH.cons rfl (fun K hK => ?_) (AllReadyH.nil)
            go_simp
            refine hK.out _ _ ⟨hS8.o.get7.2.2.2.2.1, (t7.far (h := p) (by omega) 5 _).get4.1⟩ (fun hHeldN => ?_)
            clear hK K hHeld
            have hHeld := hHeldN
            clear hHeldN
            refine wpAnyH_done (by kernel_rfl) ?_ _
            go_wp2_with fail
            go_meet
            case rel => exact ⟨E2, f2, hS8, hb8⟩
          · skip
            go_simp
            go_at_call 30
            refine (hPx _ P px (Row.ownN (own_belowN hSA.x hbc0))).out.mono ?_
            rintro xx u1 ⟨rfl, hn1⟩
            have hbc1 := below_chain hbc0 hn1
            clear e5
            have e5 := (hSA.o.below hbc1).get7.2.2.2.2.2.1
            go_wp2_with fail
            refine hK.out _ _ ⟨(hSA.o.below hbc1).get7.2.2.2.2.1, (tA.below hbc1).get4.1⟩ (fun hHeldN => ?_)
            clear hK K hHeld
            have hHeld := hHeldN
            clear hHeldN
            refine wpAnyH_ready (rs := [1, 8]) (by kernel_rfl) (by simp) ?_
            refine AllReadyH.cons rfl (fun K hK => ?_) (AllReadyH.cons rfl (fun K hK => ?_) (AllReadyH.nil))
            · skip
              go_simp
              refine hK.out _ _ ⟨(hSA.o.below hbc1).get7.2.2.2.2.1, (tA.below hbc1).get4.1⟩ (fun hHeldN => ?_)
              clear hK K hHeld
              have hHeld := hHeldN
              clear hHeldN
              refine wpAnyH_ready (rs := [8]) (by kernel_rfl) (by simp) ?_
              refine AllReadyH.cons rfl (fun K hK => ?_) (AllReadyH.nil)
              go_simp
              go_at_call 42
              refine (hHm _).out.mono ?_
              rintro xx u2 ⟨rfl, hn2⟩
              have hbc2 := below_chain hbc1 hn2
              clear e5
              have e5 := (hSA.o.below hbc2).get7.2.2.2.2.2.1
              go_wp2_with fail
              refine hK.out _ _ ⟨(hSA.o.below hbc2).get7.2.2.2.2.1, (tA.below hbc2).get4.1⟩ (fun hHeldN => ?_)
              clear hK K hHeld
              have hHeld := hHeldN
              clear hHeldN
              refine wpAnyH_take (i := 11) (v := ?_) rfl (by kernel_rfl) (by kernel_rfl) (by kernel_rfl) (fun _ _ _ h => h) (Or.inl ⟨by rfl, ?_⟩) (by assumption) ?_
              rotate_left
              · intro wt hSt
                try dsimp only at hSt
                first | (go_simp; done) | (go_simp; with_reducible rfl)
              simp only [Act.put, List.setIfInBounds_toArray, List.set_cons_zero, List.set_cons_succ, List.getElem_toArray, List.getElem_cons_zero, List.getElem_cons_succ]
              refine wpAnyH_ready (rs := [12]) (by kernel_rfl) (by simp) ?_
              refine AllReadyH.cons rfl (fun K hK => ?_) (AllReadyH.nil)
              go_simp
              have hbc3 : Below wA.heap.size wA (u2.alloc (.cells #[.int .i64 (ep + 1), .int .u64 (pm : Int), .int .u64 (mk : Int), .int .i64 ((N : Int) + 1)] 45)) := balloc hbc2 (.cells #[.int .i64 (ep + 1), .int .u64 (pm : Int), .int .u64 (mk : Int), .int .i64 ((N : Int) + 1)] 45)
              clear e5
              have e5 := (hSA.o.below hbc3).get7.2.2.2.2.2.1
              refine hK.out _ _ ⟨(hSA.o.below hbc3).get7.2.2.2.2.1, (tA.below hbc3).get4.1⟩ (fun hHeldN => ?_)
              clear hK K hHeld
              have hHeld := hHeldN
              clear hHeldN
              refine wpAnyH_ready (rs := [13]) (by kernel_rfl) (by simp) ?_
              refine AllReadyH.cons rfl (fun K hK => ?_) (AllReadyH.nil)
              refine step_app_heads0 rfl (.tmp 72) (.tmp 83) rfl (w.heap.size + 2) (.slice (some ⟨gE, oE, none⟩) hs.length f) hs ?_ (own_belowN hSA.k.hd hbc3) (some ⟨u2.heap.size, 0, none⟩) 1 [(ep + 1, pm, mk, (N : Int) + 1)] ?_ (Row.new _ _ _ _ _ rfl rfl) (by simp; omega) (Nat.le_trans hwA hbc3.size) ?_
              · first | rfl | simp [Act.eval, Act.put]
              · first | rfl | simp [Act.eval, Act.put]
              intro v7 w7 hown7 hgrow7
              rw [HN.out] at hown7
              obtain ⟨E2, f2, rfl⟩ := own_shape hown7
              have hS3 := hSA.below hbc3
              have o7 := hS3.oH hgrow7
              have t7 := (tA.below hbc3).kept hgrow7 (fun e => by have := (hltE _ e.symm).2; omega)
              have hS8 := hS3.growH hgrow7 hown7
              have hb8 := ((below_chain hbA hbc3).grown hgrow7 (below_chain hbA hbc3).size (fun j hj => by have := (hltE _ hj).1; omega)).setCell (p := ⟨p, 5, none⟩) (by show w.heap.size ≤ p; omega) (.slice E2 hn.length f2)
              have o75 := o7.get7.2.2.2.2.2.1
              have f75 := o7.f 5 (by simp)
              refine hK.out _ _ ⟨o7.get7.2.2.2.2.1, t7.get4.1⟩ (fun hHeldN => ?_)
              clear hK K hHeld
              have hHeld := hHeldN
              clear hHeldN
              try simp only [Act.put, List.setIfInBounds_toArray, List.set_cons_zero, List.set_cons_succ, List.getElem_toArray, List.getElem_cons_zero, List.getElem_cons_succ]
              refine wpAnyH_take (i := 14) (v := ?_) rfl (by kernel_rfl) (by kernel_rfl) (by kernel_rfl) (fun _ _ _ h => h) (Or.inl ⟨by rfl, ?_⟩) (by assumption) ?_
              rotate_left
              · intro wt hSt
                try dsimp only at hSt
                first | (go_simp; done) | (go_simp; with_reducible rfl)
              simp only [Act.put, List.setIfInBounds_toArray, List.set_cons_zero, List.set_cons_succ, List.getElem_toArray, List.getElem_cons_zero, List.getElem_cons_succ]
              refine wpAnyH_ready (rs := [15]) (by kernel_rfl) (by simp) ?_
              refine AllReadyH.cons rfl (fun K hK => ?_) (AllReadyH.nil)
              go_simp
              refine hK.out _ _ ⟨hS8.o.get7.2.2.2.2.1, (t7.far (h := p) (by omega) 5 _).get4.1⟩ (fun hHeldN => ?_)
              clear hK K hHeld
              have hHeld := hHeldN
              clear hHeldN
              refine wpAnyH_done (by kernel_rfl) ?_ _
              go_wp2_with fail
              go_meet
              case rel => exact ⟨E2, f2, hS8, hb8⟩
            · skip
              go_simp
              go_at_call 42
              refine (hHm _).out.mono ?_
              rintro xx u2 ⟨rfl, hn2⟩
              have hbc2 := below_chain hbc1 hn2
              clear e5
              have e5 := (hSA.o.below hbc2).get7.2.2.2.2.2.1
              go_wp2_with fail
              refine hK.out _ _ ⟨(hSA.o.below hbc2).get7.2.2.2.2.1, (tA.below hbc2).get4.1⟩ (fun hHeldN => ?_)
              clear hK K hHeld
              have hHeld := hHeldN
              clear hHeldN
              refine wpAnyH_take (i := 11) (v := ?_) rfl (by kernel_rfl) (by kernel_rfl) (by kernel_rfl) (fun _ _ _ h => h) (Or.inl ⟨by rfl, ?_⟩) (by assumption) ?_
              rotate_left
              · intro wt hSt
                try dsimp only at hSt
                first | (go_simp; done) | (go_simp; with_reducible rfl)
              simp only [Act.put, List.setIfInBounds_toArray, List.set_cons_zero, List.set_cons_succ, List.getElem_toArray, List.getElem_cons_zero, List.getElem_cons_succ]
              refine wpAnyH_ready (rs := [1, 12]) (by kernel_rfl) (by simp) ?_
              refine AllReadyH.cons rfl (fun K hK => ?_) (AllReadyH.cons rfl (fun K hK => ?_) (AllReadyH.nil))
              · skip
                go_simp
                refine hK.out _ _ ⟨(hSA.o.below hbc2).get7.2.2.2.2.1, (tA.below hbc2).get4.1⟩ (fun hHeldN => ?_)
                clear hK K hHeld
                have hHeld := hHeldN
                clear hHeldN
                refine wpAnyH_ready (rs := [12]) (by kernel_rfl) (by simp) ?_
                refine AllReadyH.cons rfl (fun K hK => ?_) (AllReadyH.nil)
                go_simp
                have hbc3 : Below wA.heap.size wA (u2.alloc (.cells #[.int .i64 (ep + 1), .int .u64 (pm : Int), .int .u64 (mk : Int), .int .i64 ((N : Int) + 1)] 45)) := balloc hbc2 (.cells #[.int .i64 (ep + 1), .int .u64 (pm : Int), .int .u64 (mk : Int), .int .i64 ((N : Int) + 1)] 45)
                clear e5
                have e5 := (hSA.o.below hbc3).get7.2.2.2.2.2.1
                refine hK.out _ _ ⟨(hSA.o.below hbc3).get7.2.2.2.2.1, (tA.below hbc3).get4.1⟩ (fun hHeldN => ?_)
                clear hK K hHeld
                have hHeld := hHeldN
                clear hHeldN
                refine wpAnyH_ready (rs := [13]) (by kernel_rfl) (by simp) ?_
                refine AllReadyH.cons rfl (fun K hK => ?_) (AllReadyH.nil)
                refine step_app_heads0 rfl (.tmp 72) (.tmp 83) rfl (w.heap.size + 2) (.slice (some ⟨gE, oE, none⟩) hs.length f) hs ?_ (own_belowN hSA.k.hd hbc3) (some ⟨u2.heap.size, 0, none⟩) 1 [(ep + 1, pm, mk, (N : Int) + 1)] ?_ (Row.new _ _ _ _ _ rfl rfl) (by simp; omega) (Nat.le_trans hwA hbc3.size) ?_
                · first | rfl | simp [Act.eval, Act.put]
                · first | rfl | simp [Act.eval, Act.put]
                intro v7 w7 hown7 hgrow7
                rw [HN.out] at hown7
                obtain ⟨E2, f2, rfl⟩ := own_shape hown7
                have hS3 := hSA.below hbc3
                have o7 := hS3.oH hgrow7
                have t7 := (tA.below hbc3).kept hgrow7 (fun e => by have := (hltE _ e.symm).2; omega)
                have hS8 := hS3.growH hgrow7 hown7
                have hb8 := ((below_chain hbA hbc3).grown hgrow7 (below_chain hbA hbc3).size (fun j hj => by have := (hltE _ hj).1; omega)).setCell (p := ⟨p, 5, none⟩) (by show w.heap.size ≤ p; omega) (.slice E2 hn.length f2)
                have o75 := o7.get7.2.2.2.2.2.1
                have f75 := o7.f 5 (by simp)
                refine hK.out _ _ ⟨o7.get7.2.2.2.2.1, t7.get4.1⟩ (fun hHeldN => ?_)
                clear hK K hHeld
                have hHeld := hHeldN
                clear hHeldN
                try simp only [Act.put, List.setIfInBounds_toArray, List.set_cons_zero, List.set_cons_succ, List.getElem_toArray, List.getElem_cons_zero, List.getElem_cons_succ]
                refine wpAnyH_take (i := 14) (v := ?_) rfl (by kernel_rfl) (by kernel_rfl) (by kernel_rfl) (fun _ _ _ h => h) (Or.inl ⟨by rfl, ?_⟩) (by assumption) ?_
                rotate_left
                · intro wt hSt
                  try dsimp only at hSt
                  first | (go_simp; done) | (go_simp; with_reducible rfl)
                simp only [Act.put, List.setIfInBounds_toArray, List.set_cons_zero, List.set_cons_succ, List.getElem_toArray, List.getElem_cons_zero, List.getElem_cons_succ]
                refine wpAnyH_ready (rs := [15]) (by kernel_rfl) (by simp) ?_
                refine AllReadyH.cons rfl (fun K hK => ?_) (AllReadyH.nil)
                go_simp
                refine hK.out _ _ ⟨hS8.o.get7.2.2.2.2.1, (t7.far (h := p) (by omega) 5 _).get4.1⟩ (fun hHeldN => ?_)
                clear hK K hHeld
                have hHeld := hHeldN
                clear hHeldN
                refine wpAnyH_done (by kernel_rfl) ?_ _
                go_wp2_with fail
                go_meet
                case rel => exact ⟨E2, f2, hS8, hb8⟩
              · skip
                go_simp
                have hbc3 : Below wA.heap.size wA (u2.alloc (.cells #[.int .i64 (ep + 1), .int .u64 (pm : Int), .int .u64 (mk : Int), .int .i64 ((N : Int) + 1)] 45)) := balloc hbc2 (.cells #[.int .i64 (ep + 1), .int .u64 (pm : Int), .int .u64 (mk : Int), .int .i64 ((N : Int) + 1)] 45)
                clear e5
                have e5 := (hSA.o.below hbc3).get7.2.2.2.2.2.1
                refine hK.out _ _ ⟨(hSA.o.below hbc3).get7.2.2.2.2.1, (tA.below hbc3).get4.1⟩ (fun hHeldN => ?_)
                clear hK K hHeld
                have hHeld := hHeldN
                clear hHeldN
                refine wpAnyH_ready (rs := [1]) (by kernel_rfl) (by simp) ?_
                refine AllReadyH.cons rfl (fun K hK => ?_) (AllReadyH.nil)
                go_simp
                refine hK.out _ _ ⟨(hSA.o.below hbc3).get7.2.2.2.2.1, (tA.below hbc3).get4.1⟩ (fun hHeldN => ?_)
                clear hK K hHeld
                have hHeld := hHeldN
                clear hHeldN
                refine wpAnyH_ready (rs := [13]) (by kernel_rfl) (by simp) ?_
                refine AllReadyH.cons rfl (fun K hK => ?_) (AllReadyH.nil)
                refine step_app_heads0 rfl (.tmp 72) (.tmp 83) rfl (w.heap.size + 2) (.slice (some ⟨gE, oE, none⟩) hs.length f) hs ?_ (own_belowN hSA.k.hd hbc3) (some ⟨u2.heap.size, 0, none⟩) 1 [(ep + 1, pm, mk, (N : Int) + 1)] ?_ (Row.new _ _ _ _ _ rfl rfl) (by simp; omega) (Nat.le_trans hwA hbc3.size) ?_
                · first | rfl | simp [Act.eval, Act.put]
                · first | rfl | simp [Act.eval, Act.put]
                intro v7 w7 hown7 hgrow7
                rw [HN.out] at hown7
                obtain ⟨E2, f2, rfl⟩ := own_shape hown7
                have hS3 := hSA.below hbc3
                have o7 := hS3.oH hgrow7
                have t7 := (tA.below hbc3).kept hgrow7 (fun e => by have := (hltE _ e.symm).2; omega)
                have hS8 := hS3.growH hgrow7 hown7
                have hb8 := ((below_chain hbA hbc3).grown hgrow7 (below_chain hbA hbc3).size (fun j hj => by have := (hltE _ hj).1; omega)).setCell (p := ⟨p, 5, none⟩) (by show w.heap.size ≤ p; omega) (.slice E2 hn.length f2)
                have o75 := o7.get7.2.2.2.2.2.1
                have f75 := o7.f 5 (by simp)
                refine hK.out _ _ ⟨o7.get7.2.2.2.2.1, t7.get4.1⟩ (fun hHeldN => ?_)
                clear hK K hHeld
                have hHeld := hHeldN
                clear hHeldN
                try simp only [Act.put, List.setIfInBounds_toArray, List.set_cons_zero, List.set_cons_succ, List.getElem_toArray, List.getElem_cons_zero, List.getElem_cons_succ]
                refine wpAnyH_take (i := 14) (v := ?_) rfl (by kernel_rfl) (by kernel_rfl) (by kernel_rfl) (fun _ _ _ h => h) (Or.inl ⟨by rfl, ?_⟩) (by assumption) ?_
                rotate_left
                · intro wt hSt
                  try dsimp only at hSt
                  first | (go_simp; done) | (go_simp; with_reducible rfl)
                simp only [Act.put, List.setIfInBounds_toArray, List.set_cons_zero, List.set_cons_succ, List.getElem_toArray, List.getElem_cons_zero, List.getElem_cons_succ]
                refine wpAnyH_ready (rs := [15]) (by kernel_rfl) (by simp) ?_
                refine AllReadyH.cons rfl (fun K hK => ?_) (AllReadyH.nil)
                go_simp
                refine hK.out _ _ ⟨hS8.o.get7.2.2.2.2.1, (t7.far (h := p) (by omega) 5 _).get4.1⟩ (fun hHeldN => ?_)
                clear hK K hHeld
                have hHeld := hHeldN
                clear hHeldN
                refine wpAnyH_done (by kernel_rfl) ?_ _
                go_wp2_with fail
                go_meet
                case rel => exact ⟨E2, f2, hS8, hb8⟩
        case rest =>
          obtain ⟨E2, f2, hS2, hb2⟩ := hcut
          clear hSA hbA tA hltE hpA hwA
          have hwc : w.heap.size + 2 ≤ wc.heap.size := by have := hS2.o.lt; omega
          have hX24 : X.length ≤ 1000 := HLX.out
          have hqq : qs.length ≤ 41 := by have := hqm0.out; omega
          go_upto_region 16 with fail
          go_cut [] (fun wx => ∃ (F2 : Option Addr) (m2 : Nat) (qn : List Bp), Hid (bks qn = bks ps ++ [X]) ∧ TS (w.heap.size + 2) p (w.heap.size + 1) w.heap.size [.int .i64 0, .slice none 0 0, .int .i64 0, .int .i64 0, .int .i64 0, .slice none 0 0, .slice none 0 0] [.int .i64 most, .slice A l.length c, .int .i64 (b : Int), .int .i64 (v0 : Int), .int .i64 (N : Int), .slice H hs.length d, .slice B ps.length e] most (b : Int) (v0 : Int) ((N : Int) + 1) l Dq dq D R1.length d1 hn E2 f2 qn F2 m2 X P px wx ∧ Below w.heap.size w wx)
          case first =>
            have hbd0 := bdrew (Below.refl wc.heap.size wc)
            have e6 := (hS2.o.below hbd0).get7.2.2.2.2.2.2
            clear HD HX HR1
            refine wp_region_held_drew (S := fun _ => True) (by kernel_rfl) trivial (fun hHeld => ?_)
            refine wpAnyH_take (i := 0) (v := ?_) rfl (by kernel_rfl) (by kernel_rfl) (by kernel_rfl) (fun _ _ _ h => h) (Or.inl ⟨by rfl, ?_⟩) (by assumption) ?_
            rotate_left
            · intro wt hSt
              try dsimp only at hSt
              first | (go_simp; done) | (go_simp; with_reducible rfl)
            simp only [Act.put, List.setIfInBounds_toArray, List.set_cons_zero, List.set_cons_succ, List.getElem_toArray, List.getElem_cons_zero]
            refine wpAnyH_take (i := 2) (v := ?_) rfl (by kernel_rfl) (by kernel_rfl) (by kernel_rfl) (fun _ _ _ h => h) (Or.inl ⟨by rfl, ?_⟩) (by assumption) ?_
            rotate_left
            · intro wt hSt
              try dsimp only at hSt
              first | (go_simp; done) | (go_simp; with_reducible rfl)
            simp only [Act.put, List.setIfInBounds_toArray, List.set_cons_zero, List.set_cons_succ, List.getElem_toArray, List.getElem_cons_zero, List.getElem_cons_succ]
            refine wpAnyH_ready (rs := [1, 3]) (by kernel_rfl) (by simp) ?_
            refine AllReadyH.cons rfl (fun K hK => ?_) (AllReadyH.cons rfl (fun K hK => ?_) (AllReadyH.nil))
            · skip
              go_simp
              refine hK.out _ _ trivial (fun hHeldN => ?_)
              clear hK K hHeld
              have hHeld := hHeldN
              clear hHeldN
              refine wpAnyH_ready (rs := [3]) (by kernel_rfl) (by simp) ?_
              refine AllReadyH.cons rfl (fun K hK => ?_) (AllReadyH.nil)
              refine step_app_ents0 rfl (.const (.slice none 0 0)) (.tmp 88) rfl (w.heap.size + 2) (.slice none 0 0) [] ?_ (own_nilAny _ _ _ _) P px X ?_ (Row.ownN (own_belowN hS2.x hbd0)) (by simp; omega) (Nat.le_trans hwc hbd0.size) ?_
              · first | rfl | simp [Act.eval, Act.put]
              · first | rfl | simp [Act.eval, Act.put]
              intro v7 u1 hown5 hgrow5
              rw [List.nil_append] at hown5
              obtain ⟨P5, p5, rfl⟩ := own_shape hown5
              have hbd1 := below_chain hbd0 ((Below.refl _ _).grown hgrow5 (Nat.le_refl _) (fun j hj => by cases hj))
              clear e6
              have e6 := (hS2.o.below hbd1).get7.2.2.2.2.2.2
              refine hK.out _ _ trivial (fun hHeldN => ?_)
              clear hK K hHeld
              have hHeld := hHeldN
              clear hHeldN
              try simp only [Act.put, List.setIfInBounds_toArray, List.set_cons_zero, List.set_cons_succ, List.getElem_toArray, List.getElem_cons_zero, List.getElem_cons_succ]
              refine wpAnyH_ready (rs := [4]) (by kernel_rfl) (by simp) ?_
              refine AllReadyH.cons rfl (fun K hK => ?_) (AllReadyH.nil)
              go_simp
              have hbd2 : Below wc.heap.size wc (u1.alloc (.cells #[.slice P5 X.length p5] 39)) := balloc hbd1 (.cells #[.slice P5 X.length p5] 39)
              have hown6 := own_belowN hown5 (balloc (Below.refl u1.heap.size u1) (.cells #[.slice P5 X.length p5] 39))
              clear e6
              have e6 := (hS2.o.below hbd2).get7.2.2.2.2.2.2
              refine hK.out _ _ trivial (fun hHeldN => ?_)
              clear hK K hHeld
              have hHeld := hHeldN
              clear hHeldN
              refine wpAnyH_ready (rs := [5]) (by kernel_rfl) (by simp) ?_
              refine AllReadyH.cons rfl (fun K hK => ?_) (AllReadyH.nil)
              refine step_app_booksAt rfl (.tmp 87) (.tmp 90) rfl (w.heap.size + 2) (.slice (some ⟨gB, oB, none⟩) qs.length m1) qs ?_ (own_belowN hS2.k.bk hbd2) (some ⟨u1.heap.size, 0, none⟩) 1 [(P5, p5, X)] (by simp) ?_ (Row.new _ _ _ _ _ rfl rfl) (by simp; omega) (Nat.le_trans hwc hbd2.size) ?_
              · first | rfl | simp [Act.eval, Act.put]
              · first | rfl | simp [Act.eval, Act.put]
              intro v7 w7 hown7 hgrow7 _
              have hqn : ∀ q ∈ qs ++ [((P5, p5, X) : Bp)], q ∈ qs ∨ (u1.alloc (.cells #[.slice P5 X.length p5] 39)).ownsRow (w.heap.size + 2) 51 2 (.slice q.1 q.2.2.length q.2.1) q.2.2.length (encells q.2.2) := fun q hq => by
                rcases List.mem_append.1 hq with h | h
                · exact .inl h
                · rw [List.mem_singleton.1 h]; exact .inr hown6
              have HBQ : Hid (bks (qs ++ [((P5, p5, X) : Bp)]) = bks ps ++ [X]) := by show _ = _; rw [bks_append, HQ.out]; rfl
              generalize qs ++ [((P5, p5, X) : Bp)] = qn at *
              obtain ⟨F2, m2, rfl⟩ := own_shape hown7
              have hS3 := hS2.below hbd2
              have o7 := hS3.oB hgrow7
              have hS8 := hS3.growB hgrow7 hown7 hqn
              have hb8 := ((below_chain hb2 hbd2).grown hgrow7 (below_chain hb2 hbd2).size (fun j hj => by have := (hS3.k.bk.lt _ hj).1; omega)).setCell (p := ⟨p, 6, none⟩) (by show w.heap.size ≤ p; omega) (.slice F2 qn.length m2)
              have o76 := o7.get7.2.2.2.2.2.2
              have f76 := o7.f 6 (by simp)
              clear hqn
              refine hK.out _ _ trivial (fun hHeldN => ?_)
              clear hK K hHeld
              have hHeld := hHeldN
              clear hHeldN
              try simp only [Act.put, List.setIfInBounds_toArray, List.set_cons_zero, List.set_cons_succ, List.getElem_toArray, List.getElem_cons_zero, List.getElem_cons_succ]
              refine wpAnyH_take (i := 6) (v := ?_) rfl (by kernel_rfl) (by kernel_rfl) (by kernel_rfl) (fun _ _ _ h => h) (Or.inl ⟨by rfl, ?_⟩) (by assumption) ?_
              rotate_left
              · intro wt hSt
                try dsimp only at hSt
                first | (go_simp; done) | (go_simp; with_reducible rfl)
              simp only [Act.put, List.setIfInBounds_toArray, List.set_cons_zero, List.set_cons_succ, List.getElem_toArray, List.getElem_cons_zero, List.getElem_cons_succ]
              refine wpAnyH_ready (rs := [7]) (by kernel_rfl) (by simp) ?_
              refine AllReadyH.cons rfl (fun K hK => ?_) (AllReadyH.nil)
              go_simp
              refine hK.out _ _ trivial (fun hHeldN => ?_)
              clear hK K hHeld
              have hHeld := hHeldN
              clear hHeldN
              refine wpAnyH_done (by kernel_rfl) ?_ _
              go_wp2_with fail
              go_meet
              case rel => exact ⟨F2, m2, qn, HBQ, hS8, hb8⟩
            · skip
              refine step_app_ents0 rfl (.const (.slice none 0 0)) (.tmp 88) rfl (w.heap.size + 2) (.slice none 0 0) [] ?_ (own_nilAny _ _ _ _) P px X ?_ (Row.ownN (own_belowN hS2.x hbd0)) (by simp; omega) (Nat.le_trans hwc hbd0.size) ?_
              · first | rfl | simp [Act.eval, Act.put]
              · first | rfl | simp [Act.eval, Act.put]
              intro v7 u1 hown5 hgrow5
              rw [List.nil_append] at hown5
              obtain ⟨P5, p5, rfl⟩ := own_shape hown5
              have hbd1 := below_chain hbd0 ((Below.refl _ _).grown hgrow5 (Nat.le_refl _) (fun j hj => by cases hj))
              clear e6
              have e6 := (hS2.o.below hbd1).get7.2.2.2.2.2.2
              refine hK.out _ _ trivial (fun hHeldN => ?_)
              clear hK K hHeld
              have hHeld := hHeldN
              clear hHeldN
              try simp only [Act.put, List.setIfInBounds_toArray, List.set_cons_zero, List.set_cons_succ, List.getElem_toArray, List.getElem_cons_zero, List.getElem_cons_succ]
              refine wpAnyH_ready (rs := [1, 4]) (by kernel_rfl) (by simp) ?_
              refine AllReadyH.cons rfl (fun K hK => ?_) (AllReadyH.cons rfl (fun K hK => ?_) (AllReadyH.nil))
              · skip
                go_simp
                refine hK.out _ _ trivial (fun hHeldN => ?_)
                clear hK K hHeld
                have hHeld := hHeldN
                clear hHeldN
                refine wpAnyH_ready (rs := [4]) (by kernel_rfl) (by simp) ?_
                refine AllReadyH.cons rfl (fun K hK => ?_) (AllReadyH.nil)
                go_simp
                have hbd2 : Below wc.heap.size wc (u1.alloc (.cells #[.slice P5 X.length p5] 39)) := balloc hbd1 (.cells #[.slice P5 X.length p5] 39)
                have hown6 := own_belowN hown5 (balloc (Below.refl u1.heap.size u1) (.cells #[.slice P5 X.length p5] 39))
                clear e6
                have e6 := (hS2.o.below hbd2).get7.2.2.2.2.2.2
                refine hK.out _ _ trivial (fun hHeldN => ?_)
                clear hK K hHeld
                have hHeld := hHeldN
                clear hHeldN
                refine wpAnyH_ready (rs := [5]) (by kernel_rfl) (by simp) ?_
                refine AllReadyH.cons rfl (fun K hK => ?_) (AllReadyH.nil)
                refine step_app_booksAt rfl (.tmp 87) (.tmp 90) rfl (w.heap.size + 2) (.slice (some ⟨gB, oB, none⟩) qs.length m1) qs ?_ (own_belowN hS2.k.bk hbd2) (some ⟨u1.heap.size, 0, none⟩) 1 [(P5, p5, X)] (by simp) ?_ (Row.new _ _ _ _ _ rfl rfl) (by simp; omega) (Nat.le_trans hwc hbd2.size) ?_
                · first | rfl | simp [Act.eval, Act.put]
                · first | rfl | simp [Act.eval, Act.put]
                intro v7 w7 hown7 hgrow7 _
                have hqn : ∀ q ∈ qs ++ [((P5, p5, X) : Bp)], q ∈ qs ∨ (u1.alloc (.cells #[.slice P5 X.length p5] 39)).ownsRow (w.heap.size + 2) 51 2 (.slice q.1 q.2.2.length q.2.1) q.2.2.length (encells q.2.2) := fun q hq => by
                  rcases List.mem_append.1 hq with h | h
                  · exact .inl h
                  · rw [List.mem_singleton.1 h]; exact .inr hown6
                have HBQ : Hid (bks (qs ++ [((P5, p5, X) : Bp)]) = bks ps ++ [X]) := by show _ = _; rw [bks_append, HQ.out]; rfl
                generalize qs ++ [((P5, p5, X) : Bp)] = qn at *
                obtain ⟨F2, m2, rfl⟩ := own_shape hown7
                have hS3 := hS2.below hbd2
                have o7 := hS3.oB hgrow7
                have hS8 := hS3.growB hgrow7 hown7 hqn
                have hb8 := ((below_chain hb2 hbd2).grown hgrow7 (below_chain hb2 hbd2).size (fun j hj => by have := (hS3.k.bk.lt _ hj).1; omega)).setCell (p := ⟨p, 6, none⟩) (by show w.heap.size ≤ p; omega) (.slice F2 qn.length m2)
                have o76 := o7.get7.2.2.2.2.2.2
                have f76 := o7.f 6 (by simp)
                clear hqn
                refine hK.out _ _ trivial (fun hHeldN => ?_)
                clear hK K hHeld
                have hHeld := hHeldN
                clear hHeldN
                try simp only [Act.put, List.setIfInBounds_toArray, List.set_cons_zero, List.set_cons_succ, List.getElem_toArray, List.getElem_cons_zero, List.getElem_cons_succ]
                refine wpAnyH_take (i := 6) (v := ?_) rfl (by kernel_rfl) (by kernel_rfl) (by kernel_rfl) (fun _ _ _ h => h) (Or.inl ⟨by rfl, ?_⟩) (by assumption) ?_
                rotate_left
                · intro wt hSt
                  try dsimp only at hSt
                  first | (go_simp; done) | (go_simp; with_reducible rfl)
                simp only [Act.put, List.setIfInBounds_toArray, List.set_cons_zero, List.set_cons_succ, List.getElem_toArray, List.getElem_cons_zero, List.getElem_cons_succ]
                refine wpAnyH_ready (rs := [7]) (by kernel_rfl) (by simp) ?_
                refine AllReadyH.cons rfl (fun K hK => ?_) (AllReadyH.nil)
                go_simp
                refine hK.out _ _ trivial (fun hHeldN => ?_)
                clear hK K hHeld
                have hHeld := hHeldN
                clear hHeldN
                refine wpAnyH_done (by kernel_rfl) ?_ _
                go_wp2_with fail
                go_meet
                case rel => exact ⟨F2, m2, qn, HBQ, hS8, hb8⟩
              · skip
                go_simp
                have hbd2 : Below wc.heap.size wc (u1.alloc (.cells #[.slice P5 X.length p5] 39)) := balloc hbd1 (.cells #[.slice P5 X.length p5] 39)
                have hown6 := own_belowN hown5 (balloc (Below.refl u1.heap.size u1) (.cells #[.slice P5 X.length p5] 39))
                clear e6
                have e6 := (hS2.o.below hbd2).get7.2.2.2.2.2.2
                refine hK.out _ _ trivial (fun hHeldN => ?_)
                clear hK K hHeld
                have hHeld := hHeldN
                clear hHeldN
                refine wpAnyH_ready (rs := [1]) (by kernel_rfl) (by simp) ?_
                refine AllReadyH.cons rfl (fun K hK => ?_) (AllReadyH.nil)
                go_simp
                refine hK.out _ _ trivial (fun hHeldN => ?_)
                clear hK K hHeld
                have hHeld := hHeldN
                clear hHeldN
                refine wpAnyH_ready (rs := [5]) (by kernel_rfl) (by simp) ?_
                refine AllReadyH.cons rfl (fun K hK => ?_) (AllReadyH.nil)
                refine step_app_booksAt rfl (.tmp 87) (.tmp 90) rfl (w.heap.size + 2) (.slice (some ⟨gB, oB, none⟩) qs.length m1) qs ?_ (own_belowN hS2.k.bk hbd2) (some ⟨u1.heap.size, 0, none⟩) 1 [(P5, p5, X)] (by simp) ?_ (Row.new _ _ _ _ _ rfl rfl) (by simp; omega) (Nat.le_trans hwc hbd2.size) ?_
                · first | rfl | simp [Act.eval, Act.put]
                · first | rfl | simp [Act.eval, Act.put]
                intro v7 w7 hown7 hgrow7 _
                have hqn : ∀ q ∈ qs ++ [((P5, p5, X) : Bp)], q ∈ qs ∨ (u1.alloc (.cells #[.slice P5 X.length p5] 39)).ownsRow (w.heap.size + 2) 51 2 (.slice q.1 q.2.2.length q.2.1) q.2.2.length (encells q.2.2) := fun q hq => by
                  rcases List.mem_append.1 hq with h | h
                  · exact .inl h
                  · rw [List.mem_singleton.1 h]; exact .inr hown6
                have HBQ : Hid (bks (qs ++ [((P5, p5, X) : Bp)]) = bks ps ++ [X]) := by show _ = _; rw [bks_append, HQ.out]; rfl
                generalize qs ++ [((P5, p5, X) : Bp)] = qn at *
                obtain ⟨F2, m2, rfl⟩ := own_shape hown7
                have hS3 := hS2.below hbd2
                have o7 := hS3.oB hgrow7
                have hS8 := hS3.growB hgrow7 hown7 hqn
                have hb8 := ((below_chain hb2 hbd2).grown hgrow7 (below_chain hb2 hbd2).size (fun j hj => by have := (hS3.k.bk.lt _ hj).1; omega)).setCell (p := ⟨p, 6, none⟩) (by show w.heap.size ≤ p; omega) (.slice F2 qn.length m2)
                have o76 := o7.get7.2.2.2.2.2.2
                have f76 := o7.f 6 (by simp)
                clear hqn
                refine hK.out _ _ trivial (fun hHeldN => ?_)
                clear hK K hHeld
                have hHeld := hHeldN
                clear hHeldN
                try simp only [Act.put, List.setIfInBounds_toArray, List.set_cons_zero, List.set_cons_succ, List.getElem_toArray, List.getElem_cons_zero, List.getElem_cons_succ]
                refine wpAnyH_take (i := 6) (v := ?_) rfl (by kernel_rfl) (by kernel_rfl) (by kernel_rfl) (fun _ _ _ h => h) (Or.inl ⟨by rfl, ?_⟩) (by assumption) ?_
                rotate_left
                · intro wt hSt
                  try dsimp only at hSt
                  first | (go_simp; done) | (go_simp; with_reducible rfl)
                simp only [Act.put, List.setIfInBounds_toArray, List.set_cons_zero, List.set_cons_succ, List.getElem_toArray, List.getElem_cons_zero, List.getElem_cons_succ]
                refine wpAnyH_ready (rs := [7]) (by kernel_rfl) (by simp) ?_
                refine AllReadyH.cons rfl (fun K hK => ?_) (AllReadyH.nil)
                go_simp
                refine hK.out _ _ trivial (fun hHeldN => ?_)
                clear hK K hHeld
                have hHeld := hHeldN
                clear hHeldN
                refine wpAnyH_done (by kernel_rfl) ?_ _
                go_wp2_with fail
                go_meet
                case rel => exact ⟨F2, m2, qn, HBQ, hS8, hb8⟩
          case rest =>
            obtain ⟨F2, m2, qn, HBQ, hS3, hb3⟩ := hcut
            clear hS2 hb2 hwc hX24 hqq
            have zf := hS3.z
            have kf := hS3.k
            obtain ⟨p0, p1, p2, p3, p4, p5, p6⟩ := hS3.o.get7
            have z9 : Bx (((((((wc.setCell ⟨w.heap.size + 1, 0, none⟩ (.int .i64 most)).setCell ⟨w.heap.size + 1, 1, none⟩ (.slice D R1.length d1)).setCell ⟨w.heap.size + 1, 2, none⟩ (.int .i64 (b : Int))).setCell ⟨w.heap.size + 1, 3, none⟩ (.int .i64 (v0 : Int))).setCell ⟨w.heap.size + 1, 4, none⟩ (.int .i64 ((N : Int) + 1))).setCell ⟨w.heap.size + 1, 5, none⟩ (.slice E2 hn.length f2)).setCell ⟨w.heap.size + 1, 6, none⟩ (.slice F2 qn.length m2)) (w.heap.size + 1) [.int .i64 most, .slice D R1.length d1, .int .i64 (b : Int), .int .i64 (v0 : Int), .int .i64 ((N : Int) + 1), .slice E2 hn.length f2, .slice F2 qn.length m2] := (((((((zf.set 0 (.int .i64 most)).set 1 (.slice D R1.length d1)).set 2 (.int .i64 (b : Int))).set 3 (.int .i64 (v0 : Int))).set 4 (.int .i64 ((N : Int) + 1))).set 5 (.slice E2 hn.length f2)).set 6 (.slice F2 qn.length m2))
            have k9 := Lib.hid (((((((kf.set (g := w.heap.size + 1) (by omega) 0 (.int .i64 most)).set (g := w.heap.size + 1) (by omega) 1 (.slice D R1.length d1)).set (g := w.heap.size + 1) (by omega) 2 (.int .i64 (b : Int))).set (g := w.heap.size + 1) (by omega) 3 (.int .i64 (v0 : Int))).set (g := w.heap.size + 1) (by omega) 4 (.int .i64 ((N : Int) + 1))).set (g := w.heap.size + 1) (by omega) 5 (.slice E2 hn.length f2)).set (g := w.heap.size + 1) (by omega) 6 (.slice F2 qn.length m2))
            have hb9 := Lib.hid (((((((hb3.setCell (p := ⟨w.heap.size + 1, 0, none⟩) (by omega : w.heap.size ≤ w.heap.size + 1) (.int .i64 most)).setCell (p := ⟨w.heap.size + 1, 1, none⟩) (by omega : w.heap.size ≤ w.heap.size + 1) (.slice D R1.length d1)).setCell (p := ⟨w.heap.size + 1, 2, none⟩) (by omega : w.heap.size ≤ w.heap.size + 1) (.int .i64 (b : Int))).setCell (p := ⟨w.heap.size + 1, 3, none⟩) (by omega : w.heap.size ≤ w.heap.size + 1) (.int .i64 (v0 : Int))).setCell (p := ⟨w.heap.size + 1, 4, none⟩) (by omega : w.heap.size ≤ w.heap.size + 1) (.int .i64 ((N : Int) + 1))).setCell (p := ⟨w.heap.size + 1, 5, none⟩) (by omega : w.heap.size ≤ w.heap.size + 1) (.slice E2 hn.length f2)).setCell (p := ⟨w.heap.size + 1, 6, none⟩) (by omega : w.heap.size ≤ w.heap.size + 1) (.slice F2 qn.length m2))
            obtain ⟨b0, b1, b2, b3, b4, b5, b6⟩ := zf.get7
            have g0 := zf.f 0 (by simp)
            have g1 := zf.f 1 (by simp)
            have g2 := zf.f 2 (by simp)
            have g3 := zf.f 3 (by simp)
            have g4 := zf.f 4 (by simp)
            have g5 := zf.f 5 (by simp)
            have g6 := zf.f 6 (by simp)
            clear zf kf hS3 hb3
            clear hc cm hvz hv1 hv2 hN hb30 HN HSt hHm HPM HHM HGD HPH hp40 hmh hms hz2 hqm HQ HX HR1 hcap hplt hwz hjb hl30 hc40 hep
            go_upto_region 17 with fail
            go_cut [3] (fun v wx => v = .bool true ∧ wx = (((((((wc.setCell ⟨w.heap.size + 1, 0, none⟩ (.int .i64 most)).setCell ⟨w.heap.size + 1, 1, none⟩ (.slice D R1.length d1)).setCell ⟨w.heap.size + 1, 2, none⟩ (.int .i64 (b : Int))).setCell ⟨w.heap.size + 1, 3, none⟩ (.int .i64 (v0 : Int))).setCell ⟨w.heap.size + 1, 4, none⟩ (.int .i64 ((N : Int) + 1))).setCell ⟨w.heap.size + 1, 5, none⟩ (.slice E2 hn.length f2)).setCell ⟨w.heap.size + 1, 6, none⟩ (.slice F2 qn.length m2)))
            case first =>
              go_wp2_with fail
              go_meet
              case rel => exact ⟨rfl, rfl⟩
            case rest =>
              obtain ⟨rfl, hwx⟩ := hcut
              have hwx := hwx.symm
              subst hwx
              generalize (((((((wc.setCell ⟨w.heap.size + 1, 0, none⟩ (.int .i64 most)).setCell ⟨w.heap.size + 1, 1, none⟩ (.slice D R1.length d1)).setCell ⟨w.heap.size + 1, 2, none⟩ (.int .i64 (b : Int))).setCell ⟨w.heap.size + 1, 3, none⟩ (.int .i64 (v0 : Int))).setCell ⟨w.heap.size + 1, 4, none⟩ (.int .i64 ((N : Int) + 1))).setCell ⟨w.heap.size + 1, 5, none⟩ (.slice E2 hn.length f2)).setCell ⟨w.heap.size + 1, 6, none⟩ (.slice F2 qn.length m2)) = w9 at *
              clear p0 p1 p2 p3 p4 p5 p6 b0 b1 b2 b3 b4 b5 b6 g0 g1 g2 g3 g4 g5 g6
              obtain ⟨r0, r1, r2, r3, r4, r5, r6⟩ := z9.get7
              apply_assumption
              go_step
              refine bodyPost_ret (v := .tuple #[.agg #[.int .i64 most, .slice D R1.length d1, .int .i64 (b : Int), .int .i64 (v0 : Int), .int .i64 ((N : Int) + 1), .slice E2 hn.length f2, .slice F2 qn.length m2], .bool true]) ?_ rfl ⟨D, d1, E2, f2, F2, m2, qn, rfl, HBQ.out, HD.out _ _ k9.out.q, Row.ownN k9.out.hd, k9.out.books, hb9.out⟩
              rw [results_cell_tmp rfl]
              go_simp

end Go.Proofs.YtjcockcilkiggaaGreat
