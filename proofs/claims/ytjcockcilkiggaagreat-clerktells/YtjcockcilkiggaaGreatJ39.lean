/- Package clerk: Tick at a clerk where a book is due. It writes nothing that was there. -/
import Derived.Test.YtjcockcilkiggaaGreatJ38
import Derived.Deep.DeepCutAuto
namespace Go.Proofs.YtjcockcilkiggaaGreat
set_option maxRecDepth 100000
open Go.RowKit

set_option maxHeartbeats 8000000 in
theorem clerkTick_due (most ba ev nw : Int) (l : List Ak) (hs : List Hd) (ps : List Bp) (A H B : Option Addr) (c d e : Nat) (w : World) (hl : l.length ≤ maxLen) (hlf : ∀ x ∈ l, AkFits x) (hh : hs.length ≤ maxLen) (hp : ps.length ≤ maxLen) (hpb : ∀ p ∈ ps, p.2.2.length ≤ maxLen ∧ ∀ x ∈ p.2.2, x.1.length ≤ maxLen ∧ x.2.length ≤ maxLen) (hA : Row w A (qcells l)) (hH : Row w H (hcells hs)) (hB : Books w B ps) (hg : CkGood ⟨most, l, ba, ev, nw, hs, bks ps⟩) (hcl : closedB ⟨most, l, ba, ev, nw, hs, bks ps⟩ = false) (hd : (nw + 1) % ev = 0) :
    Calls Tryz.prog 6 #[.agg #[.int .i64 most, .slice A l.length c, .int .i64 ba, .int .i64 ev, .int .i64 nw, .slice H hs.length d, .slice B ps.length e]] w (TkGives ⟨most, l.drop ba.toNat, ba, ev, nw + 1, hs ++ [nextOf (lastH hs) (prefMark (tickBk ⟨most, l, ba, ev, nw, hs, bks ps⟩) []) (nw + 1)], bks ps ++ [tickBk ⟨most, l, ba, ev, nw, hs, bks ps⟩]⟩ true w) := by
  have hq : QGood most l := hg.queue
  have hl30 : l.length ≤ 30 := by have := hq.len; have := hq.m30; omega
  have hc40 : hs.length ≤ 40 := hg.chain.len
  have hc0 : 0 < hs.length := hg.chain.pos
  have hph : ps.length = hs.length := by
    have := hg.form
    unfold formBad at this
    dsimp only at this
    rw [bks_length] at this
    omega
  have hbk24 : ∀ p ∈ ps, p.2.2.length ≤ 1000 := fun p hp => by
    obtain ⟨i, hi, rfl⟩ := List.getElem_of_mem hp
    have := (hg.each i (by show i < (bks ps).length; rw [bks_length]; exact hi) (by show i < hs.length; omega)).1
    have e : (bks ps)[i]'(by rw [bks_length]; exact hi) = ps[i].2.2 := bks_get ps i hi
    have h24 := this.len
    have : ps[i].2.2.length ≤ 24 := e ▸ h24
    omega
  have hT0 := tickBk_good hg
  have hcl' : hs.length ≠ 40 ∧ nw ≠ 1000000000 := by simpa [closedB] using hcl
  have hnx := tick_next hg hcl'.2
  have hgr : GrowOk hs (prefMark (tickBk ⟨most, l, ba, ev, nw, hs, bks ps⟩) []) (nw + 1) := ⟨hg.chain, by omega, hnx⟩
  obtain ⟨m, hpm⟩ : ∃ m, ps.length = m + 1 := ⟨ps.length - 1, by omega⟩
  obtain ⟨bk, hbk⟩ : ∃ u, (ps[m]'(by omega)).2.2 = u := ⟨_, rfl⟩
  have hlb : lastBk (⟨most, l, ba, ev, nw, hs, bks ps⟩ : Ck) = bk := by
    rw [lastBk_at (m := m) (by show (bks ps).length = _; rw [bks_length]; exact hpm)]
    show (bks ps)[m]'_ = bk
    rw [bks_get ps m (by omega), hbk]
  have hgd : Good bk := by rw [← hlb]; exact lastBk_good hg
  have hnm : (Bin.srt (bk.map (·.1) ++ l.map (·.1))).length ≤ 24 := by
    have := hg.names
    rw [namesN, hlb, namesOf, if_pos rfl, List.append_nil] at this
    exact this
  have hb0 : Below w.heap.size w ((w.alloc (.cells #[.int .i64 most, .slice A l.length c, .int .i64 ba, .int .i64 ev, .int .i64 nw, .slice H hs.length d, .slice B ps.length e] 28)).alloc (.cells #[.int .i64 0, .slice none 0 0, .int .i64 0, .int .i64 0, .int .i64 0, .slice none 0 0, .slice none 0 0] 28)) := balloc (balloc (Below.refl _ _) _) _
  have hs0 : ((w.alloc (.cells #[.int .i64 most, .slice A l.length c, .int .i64 ba, .int .i64 ev, .int .i64 nw, .slice H hs.length d, .slice B ps.length e] 28)).alloc (.cells #[.int .i64 0, .slice none 0 0, .int .i64 0, .int .i64 0, .int .i64 0, .slice none 0 0, .slice none 0 0] 28)).heap.size = w.heap.size + 2 := by simp
  have x0 := (Bx.new w _ rfl _ [.int .i64 most, .slice A l.length c, .int .i64 ba, .int .i64 ev, .int .i64 nw, .slice H hs.length d, .slice B ps.length e] 28 rfl).alloc (.cells #[.int .i64 0, .slice none 0 0, .int .i64 0, .int .i64 0, .int .i64 0, .slice none 0 0, .slice none 0 0] 28)
  have z0 := Bx.new (w.alloc (.cells #[.int .i64 most, .slice A l.length c, .int .i64 ba, .int .i64 ev, .int .i64 nw, .slice H hs.length d, .slice B ps.length e] 28)) (w.heap.size + 1) (by simp) _ [.int .i64 0, .slice none 0 0, .int .i64 0, .int .i64 0, .int .i64 0, .slice none 0 0, .slice none 0 0] 28 rfl
  have hA0 := hA.below hb0
  have hH0 := hH.below hb0
  have hB0 := hB.below hb0
  obtain ⟨a0, a1, a2, a3, a4, a5, a6⟩ := x0.get7
  have hCk := fun (w : World) h1 h2 h3 => Lib.hid (clerkCheck most ba ev nw l hs ps A H B c d e w hl hlf hh hp hpb h1 h2 h3 0 ((ckfault_ok _).2 hg))
  have hCo := fun (w : World) h1 h2 h3 => Lib.hid (clerkCopied most ba ev nw l hs ps A H B c d e w (by omega) hc0 (by omega) (by omega) (by omega) hbk24 h1 h2 h3)
  have hCl := fun (w : World) => Lib.hid (clerkClosed most ba ev nw A H B l.length c hs.length d ps.length e w _ hcl)
  have hrg := hg.range
  unfold rangeBad at hrg
  dsimp only at hrg
  obtain ⟨N, rfl⟩ : ∃ N : Nat, nw = (N : Int) := ⟨nw.toNat, by omega⟩
  obtain ⟨v0, rfl⟩ : ∃ v0 : Nat, ev = (v0 : Int) := ⟨ev.toNat, by omega⟩
  have hN : N ≤ 1000000000 := by omega
  have hv1 : 1 ≤ v0 := by omega
  have hv2 : v0 ≤ 1000 := by omega
  have hvz : ((v0 : Int) == 0) = false := beq_eq_false_iff_ne.2 (by omega)
  obtain ⟨b, rfl⟩ : ∃ b : Nat, ba = (b : Int) := ⟨ba.toNat, by omega⟩
  have cm : (((N : Int) + 1) % (v0 : Int) != 0) = false := by rw [hd]; rfl
  obtain ⟨j, hj⟩ : ∃ j, j = min b l.length := ⟨_, rfl⟩
  have hjt : l.take j = l.take b := by
    rw [hj]
    rcases Nat.le_total b l.length with h | h
    · rw [Nat.min_eq_left h]
    · rw [Nat.min_eq_right h, List.take_length, List.take_of_length_le h]
  have hjd : l.drop j = l.drop b := by
    rw [hj]
    rcases Nat.le_total b l.length with h | h
    · rw [Nat.min_eq_left h]
    · rw [Nat.min_eq_right h, List.drop_length, List.drop_of_length_le h]
  obtain ⟨T, hT⟩ : ∃ T, tickBk ⟨most, l, (b : Int), (v0 : Int), (N : Int), hs, bks ps⟩ = T := ⟨_, rfl⟩
  rw [hT] at hT0 hgr ⊢
  have hT2 : setAll bk (l.take j) = T := by rw [hjt, ← hT, tickBk, hlb]; rfl
  obtain ⟨pm, hpmk⟩ : ∃ pm, prefMark T [] = pm := ⟨_, rfl⟩
  rw [hpmk] at hgr ⊢
  obtain ⟨hn, hhn⟩ : ∃ hn, hs ++ [nextOf (lastH hs) pm ((N : Int) + 1)] = hn := ⟨_, rfl⟩
  rw [hhn, Int.toNat_natCast, ← hjd]
  obtain ⟨R, hR⟩ : ∃ R, l.drop j = R := ⟨_, rfl⟩
  rw [hR]
  have hNj : (Bin.srt (bk.map (·.1) ++ (l.take j).map (·.1))).length ≤ 24 := Nat.le_trans (srt_sub fun x hx => by
    rcases List.mem_append.1 hx with h | h
    · exact List.mem_append_left _ h
    · obtain ⟨y, hy, rfl⟩ := List.mem_map.1 h
      exact List.mem_append_right _ (List.mem_map_of_mem (List.mem_of_mem_take hy))) hnm
  have hbkq : ∀ (qs : List Bp), bks qs = bks ps → ∃ h : m < qs.length, qs.length = m + 1 ∧ qs[m].2.2 = bk := fun qs he => by
    have h1 : qs.length = m + 1 := by have := congrArg List.length he; rw [bks_length, bks_length] at this; omega
    refine ⟨by omega, h1, ?_⟩
    rw [← bks_get qs m (by omega), ← hbk, ← bks_get ps m (by omega)]
    congr 1
  have hPb := fun (qs : List Bp) (he : bks qs = bks ps) (A H B : Option Addr) (c d e b0 : Nat) (w : World) hO hb => Lib.hid (clerkPublish most (v0 : Int) ((N : Int) + 1) b l hs qs A H B c d e b0 w hq hlf m (hbkq qs he).2.1 (by omega) bk (hbkq qs he).2.2 hgd j hj hNj T hT2 hT0 pm hpmk hgr hO hb R hR hn hhn)
  clear hl hlf hh hp hpb hg hq hl30 hc40 hc0 hph hbk24 hcl hd hrg hT0 hcl' hnx hgr hpm hbk hlb hgd hnm hj hjt hjd hT hT2 hpmk hhn hR hNj hbkq
  go_enter Tryz.func6, Tryz.ntmps6
  go_wp2_with fail
  refine (hCk _ hA0 hH0 hB0).out.mono ?_
  rintro xx w1 ⟨rfl, hb1⟩
  have x1 := x0.below hb1
  have z1 := z0.below hb1
  have hb01 := below_chain hb0 hb1
  have hs1 := hb1.size
  have hz1 := z1.lt
  clear a0 a1 a2 a3 a4 a5 a6 x0 z0 hA0 hH0 hB0 hCk
  have hA1 := hA.below hb01
  have hH1 := hH.below hb01
  have hB1 := hB.below hb01
  obtain ⟨a0, a1, a2, a3, a4, a5, a6⟩ := x1.get7
  go_wp2_with fail
  refine (hCo _ hA1 hH1 hB1).out.mono ?_
  rintro xx w2 ⟨Dq, dq, E, f, F, m1, qs, rfl, hqs, hO, hb2⟩
  have hs2 := hb2.size
  have hb23 := balloc hb2 (.cells #[.int .i64 most, .slice Dq l.length dq, .int .i64 (b : Int), .int .i64 (v0 : Int), .int .i64 (N : Int), .slice E hs.length f, .slice F qs.length m1] 28)
  have x3 := x1.below hb23
  have z3 := z1.below hb23
  have o3 := Bx.new w2 w2.heap.size rfl _ [.int .i64 most, .slice Dq l.length dq, .int .i64 (b : Int), .int .i64 (v0 : Int), .int .i64 (N : Int), .slice E hs.length f, .slice F qs.length m1] 28 rfl
  have r3 := clerk_row w2 [.int .i64 most, .slice Dq l.length dq, .int .i64 (b : Int), .int .i64 (v0 : Int), .int .i64 (N : Int), .slice E hs.length f, .slice F qs.length m1] rfl
  have k3 := (hO.below (balloc (Below.refl _ _) (.cells #[.int .i64 most, .slice Dq l.length dq, .int .i64 (b : Int), .int .i64 (v0 : Int), .int .i64 (N : Int), .slice E hs.length f, .slice F qs.length m1] 28))).mono (by omega : w.heap.size + 2 ≤ w1.heap.size)
  have hlq := fun k hk => (hO.q.lt k hk).2
  have hlh := fun k hk => (hO.hd.lt k hk).2
  have hlk := fun k hk => (hO.bk.lt k hk).2
  have hle := fun p (hp : p ∈ qs) k hk => ((hO.each p hp).lt k hk).2
  have hb03 := below_chain hb01 hb23
  obtain ⟨p, hp⟩ : ∃ p, w2.heap.size = p := ⟨_, rfl⟩
  rw [hp] at o3 hs2 hlq hlh hlk hle r3
  clear a0 a1 a2 a3 a4 a5 a6 x1 z1 hb01 hA1 hH1 hB1 hCo hO hb2 hb23 hA hH hB
  obtain ⟨a0, a1, a2, a3, a4, a5, a6⟩ := x3.get7
  go_wp2_with fail
  generalize (w2.alloc (.cells #[.int .i64 most, .slice Dq l.length dq, .int .i64 (b : Int), .int .i64 (v0 : Int), .int .i64 (N : Int), .slice E hs.length f, .slice F qs.length m1] 28)) = w3 at *
  refine (hCl _).out.mono ?_
  rintro xx w4 ⟨rfl, hb4⟩
  have x4 := x3.below hb4
  have z4 := z3.below hb4
  have o4 := o3.below hb4
  have k4 := k3.below hb4
  have r4 := own_belowN r3 hb4
  have hb04 := below_chain hb03 hb4
  try rw [hp]
  have HP := Lib.hid hp
  clear a0 a1 a2 a3 a4 a5 a6 x3 z3 o3 k3 r3 hb03 hCl hp
  have hpz : w.heap.size + 2 ≤ p := by omega
  have o5 : Bx (w4.setCell ⟨p, 4, none⟩ (.int .i64 ((N : Int) + 1))) p [.int .i64 most, .slice Dq l.length dq, .int .i64 (b : Int), .int .i64 (v0 : Int), .int .i64 ((N : Int) + 1), .slice E hs.length f, .slice F qs.length m1] := o4.set 4 (.int .i64 ((N : Int) + 1))
  have z5 := z4.far (h := p) (by omega) 4 (.int .i64 ((N : Int) + 1))
  have k5 : OwnCk (w4.setCell ⟨p, 4, none⟩ (.int .i64 ((N : Int) + 1))) (w.heap.size + 2) l hs Dq E F dq f m1 qs :=
    ⟨own_far k4.q (fun k hk => by have := hlq k hk; omega) 4 _, own_far k4.hd (fun k hk => by have := hlh k hk; omega) 4 _, own_far k4.bk (fun k hk => by have := hlk k hk; omega) 4 _, fun q hq => own_far (k4.each q hq) (fun k hk => by have := hle q hq k hk; omega) 4 _⟩
  have hb05 := hb04.setCell (p := ⟨p, 4, none⟩) (by show w.heap.size ≤ p; omega) (.int .i64 ((N : Int) + 1))
  obtain ⟨p0, p1, p2, p3, p4, p5, p6⟩ := o4.get7
  have f4 := o4.f 4 (by simp)
  obtain ⟨q0, q1, q2, q3, q4, q5, q6⟩ := o5.get7
  have r5 := (r4.stored 4 (.int .i64 ((N : Int) + 1))).1
  clear x4 hlq hlh hle o4 z4 k4 r4 hb04
  have HQ := Lib.hid hqs
  have hzz := z5.lt
  have hPb2 := hPb qs hqs
  clear hqs hPb
  go_wp2_with fail
  refine (hPb2 _ _ _ _ _ _ (w.heap.size + 2) _ k5 (by omega)).out.mono ?_
  rintro xx w6 ⟨D6, d6, E6, f6, F6, m6, P6, p6, rfl, k6, hb6, hg6⟩
  have HBK : Hid (bks (qs ++ [((P6, p6, T) : Bp)]) = bks ps ++ [T]) := by show _ = _; rw [bks_append, HQ.out]; rfl
  generalize qs ++ [((P6, p6, T) : Bp)] = qz at *
  have hne5 : ∀ k, (Value.slice F qs.length m1).ownBlock = some k → w.heap.size + 2 ≤ k ∧ k < p := fun k hk => ⟨(k5.bk.lt k hk).1, hlk k hk⟩
  have o6 := o5.kept hg6 (fun h => by have := hne5 _ h.symm; omega)
  have z6 := z5.kept hg6 (fun h => by have := hne5 _ h.symm; omega)
  have r6 := r5.kept hg6 (.inr (fun h => by have := hne5 p h.symm; omega))
  have hb06 : Below w.heap.size w w6 := hb05.trans (hb6.mono (by omega))
  have hpw : w.heap.size ≤ p := by omega
  have hap : ∀ {b' : Nat} {e' : TypeId} {s' n' : Nat} {v' : Value} {xs' : List Value}, w6.ownsRow b' e' s' v' n' xs' → e' ≠ 28 → ∀ k, v'.ownBlock = some k → k ≠ p := fun h' hne k hk e => by
    rcases own_apart h' r6 hne with h | h
    · rw [h] at hk; cases hk
    · rw [hk, e] at h; exact h rfl
  have z7 := (((((((z6.far (h := p) (by omega) 0 (.int .i64 most)).far (h := p) (by omega) 1 (.slice D6 R.length d6)).far (h := p) (by omega) 2 (.int .i64 (b : Int))).far (h := p) (by omega) 3 (.int .i64 (v0 : Int))).far (h := p) (by omega) 4 (.int .i64 ((N : Int) + 1))).far (h := p) (by omega) 5 (.slice E6 hn.length f6)).far (h := p) (by omega) 6 (.slice F6 qz.length m6))
  have hb07 := (((((((hb06.setCell (p := ⟨p, 0, none⟩) hpw (.int .i64 most)).setCell (p := ⟨p, 1, none⟩) hpw (.slice D6 R.length d6)).setCell (p := ⟨p, 2, none⟩) hpw (.int .i64 (b : Int))).setCell (p := ⟨p, 3, none⟩) hpw (.int .i64 (v0 : Int))).setCell (p := ⟨p, 4, none⟩) hpw (.int .i64 ((N : Int) + 1))).setCell (p := ⟨p, 5, none⟩) hpw (.slice E6 hn.length f6)).setCell (p := ⟨p, 6, none⟩) hpw (.slice F6 qz.length m6))
  have o7 : Bx (((((((w6.setCell ⟨p, 0, none⟩ (.int .i64 most)).setCell ⟨p, 1, none⟩ (.slice D6 R.length d6)).setCell ⟨p, 2, none⟩ (.int .i64 (b : Int))).setCell ⟨p, 3, none⟩ (.int .i64 (v0 : Int))).setCell ⟨p, 4, none⟩ (.int .i64 ((N : Int) + 1))).setCell ⟨p, 5, none⟩ (.slice E6 hn.length f6)).setCell ⟨p, 6, none⟩ (.slice F6 qz.length m6)) p [.int .i64 most, .slice D6 R.length d6, .int .i64 (b : Int), .int .i64 (v0 : Int), .int .i64 ((N : Int) + 1), .slice E6 hn.length f6, .slice F6 qz.length m6] := (((((((o6.set 0 (.int .i64 most)).set 1 (.slice D6 R.length d6)).set 2 (.int .i64 (b : Int))).set 3 (.int .i64 (v0 : Int))).set 4 (.int .i64 ((N : Int) + 1))).set 5 (.slice E6 hn.length f6)).set 6 (.slice F6 qz.length m6))
  have k7 : OwnCk (((((((w6.setCell ⟨p, 0, none⟩ (.int .i64 most)).setCell ⟨p, 1, none⟩ (.slice D6 R.length d6)).setCell ⟨p, 2, none⟩ (.int .i64 (b : Int))).setCell ⟨p, 3, none⟩ (.int .i64 (v0 : Int))).setCell ⟨p, 4, none⟩ (.int .i64 ((N : Int) + 1))).setCell ⟨p, 5, none⟩ (.slice E6 hn.length f6)).setCell ⟨p, 6, none⟩ (.slice F6 qz.length m6)) (w.heap.size + 2) R hn D6 E6 F6 d6 f6 m6 qz := ⟨(own_far (own_far (own_far (own_far (own_far (own_far (own_far k6.q (hap k6.q (by decide)) 0 (.int .i64 most)) (hap k6.q (by decide)) 1 (.slice D6 R.length d6)) (hap k6.q (by decide)) 2 (.int .i64 (b : Int))) (hap k6.q (by decide)) 3 (.int .i64 (v0 : Int))) (hap k6.q (by decide)) 4 (.int .i64 ((N : Int) + 1))) (hap k6.q (by decide)) 5 (.slice E6 hn.length f6)) (hap k6.q (by decide)) 6 (.slice F6 qz.length m6)), (own_far (own_far (own_far (own_far (own_far (own_far (own_far k6.hd (hap k6.hd (by decide)) 0 (.int .i64 most)) (hap k6.hd (by decide)) 1 (.slice D6 R.length d6)) (hap k6.hd (by decide)) 2 (.int .i64 (b : Int))) (hap k6.hd (by decide)) 3 (.int .i64 (v0 : Int))) (hap k6.hd (by decide)) 4 (.int .i64 ((N : Int) + 1))) (hap k6.hd (by decide)) 5 (.slice E6 hn.length f6)) (hap k6.hd (by decide)) 6 (.slice F6 qz.length m6)), (own_far (own_far (own_far (own_far (own_far (own_far (own_far k6.bk (hap k6.bk (by decide)) 0 (.int .i64 most)) (hap k6.bk (by decide)) 1 (.slice D6 R.length d6)) (hap k6.bk (by decide)) 2 (.int .i64 (b : Int))) (hap k6.bk (by decide)) 3 (.int .i64 (v0 : Int))) (hap k6.bk (by decide)) 4 (.int .i64 ((N : Int) + 1))) (hap k6.bk (by decide)) 5 (.slice E6 hn.length f6)) (hap k6.bk (by decide)) 6 (.slice F6 qz.length m6)), fun q hq => (own_far (own_far (own_far (own_far (own_far (own_far (own_far (k6.each q hq) (hap (k6.each q hq) (by decide)) 0 (.int .i64 most)) (hap (k6.each q hq) (by decide)) 1 (.slice D6 R.length d6)) (hap (k6.each q hq) (by decide)) 2 (.int .i64 (b : Int))) (hap (k6.each q hq) (by decide)) 3 (.int .i64 (v0 : Int))) (hap (k6.each q hq) (by decide)) 4 (.int .i64 ((N : Int) + 1))) (hap (k6.each q hq) (by decide)) 5 (.slice E6 hn.length f6)) (hap (k6.each q hq) (by decide)) 6 (.slice F6 qz.length m6))⟩
  obtain ⟨c0, c1, c2, c3, c4, c5, c6⟩ := o6.get7
  have y0 := o6.f 0 (by simp)
  have y1 := o6.f 1 (by simp)
  have y2 := o6.f 2 (by simp)
  have y3 := o6.f 3 (by simp)
  have y4 := o6.f 4 (by simp)
  have y5 := o6.f 5 (by simp)
  have y6 := o6.f 6 (by simp)
  clear o5 z5 k5 r5 hb05 p0 p1 p2 p3 p4 p5 q0 q1 q2 q3 q4 q5 q6 f4 hPb2 hne5 hap r6 k6 hb6 hg6 o6 z6 hb06 hlk
  go_upto_region 11 with fail
  generalize (((((((w6.setCell ⟨p, 0, none⟩ (.int .i64 most)).setCell ⟨p, 1, none⟩ (.slice D6 R.length d6)).setCell ⟨p, 2, none⟩ (.int .i64 (b : Int))).setCell ⟨p, 3, none⟩ (.int .i64 (v0 : Int))).setCell ⟨p, 4, none⟩ (.int .i64 ((N : Int) + 1))).setCell ⟨p, 5, none⟩ (.slice E6 hn.length f6)).setCell ⟨p, 6, none⟩ (.slice F6 qz.length m6)) = w7 at *
  clear c0 c1 c2 c3 c4 c5 c6 y0 y1 y2 y3 y4 y5 y6
  obtain ⟨u0, u1, u2, u3, u4, u5, u6⟩ := o7.get7
  have z9 : Bx (((((((w7.setCell ⟨w.heap.size + 1, 0, none⟩ (.int .i64 most)).setCell ⟨w.heap.size + 1, 1, none⟩ (.slice D6 R.length d6)).setCell ⟨w.heap.size + 1, 2, none⟩ (.int .i64 (b : Int))).setCell ⟨w.heap.size + 1, 3, none⟩ (.int .i64 (v0 : Int))).setCell ⟨w.heap.size + 1, 4, none⟩ (.int .i64 ((N : Int) + 1))).setCell ⟨w.heap.size + 1, 5, none⟩ (.slice E6 hn.length f6)).setCell ⟨w.heap.size + 1, 6, none⟩ (.slice F6 qz.length m6)) (w.heap.size + 1) [.int .i64 most, .slice D6 R.length d6, .int .i64 (b : Int), .int .i64 (v0 : Int), .int .i64 ((N : Int) + 1), .slice E6 hn.length f6, .slice F6 qz.length m6] := (((((((z7.set 0 (.int .i64 most)).set 1 (.slice D6 R.length d6)).set 2 (.int .i64 (b : Int))).set 3 (.int .i64 (v0 : Int))).set 4 (.int .i64 ((N : Int) + 1))).set 5 (.slice E6 hn.length f6)).set 6 (.slice F6 qz.length m6))
  have hb9 := Lib.hid (((((((hb07.setCell (p := ⟨w.heap.size + 1, 0, none⟩) (by omega : w.heap.size ≤ w.heap.size + 1) (.int .i64 most)).setCell (p := ⟨w.heap.size + 1, 1, none⟩) (by omega : w.heap.size ≤ w.heap.size + 1) (.slice D6 R.length d6)).setCell (p := ⟨w.heap.size + 1, 2, none⟩) (by omega : w.heap.size ≤ w.heap.size + 1) (.int .i64 (b : Int))).setCell (p := ⟨w.heap.size + 1, 3, none⟩) (by omega : w.heap.size ≤ w.heap.size + 1) (.int .i64 (v0 : Int))).setCell (p := ⟨w.heap.size + 1, 4, none⟩) (by omega : w.heap.size ≤ w.heap.size + 1) (.int .i64 ((N : Int) + 1))).setCell (p := ⟨w.heap.size + 1, 5, none⟩) (by omega : w.heap.size ≤ w.heap.size + 1) (.slice E6 hn.length f6)).setCell (p := ⟨w.heap.size + 1, 6, none⟩) (by omega : w.heap.size ≤ w.heap.size + 1) (.slice F6 qz.length m6))
  have k9 := Lib.hid ((((((((k7.set (g := w.heap.size + 1) (by omega) 0 (.int .i64 most)).set (g := w.heap.size + 1) (by omega) 1 (.slice D6 R.length d6)).set (g := w.heap.size + 1) (by omega) 2 (.int .i64 (b : Int))).set (g := w.heap.size + 1) (by omega) 3 (.int .i64 (v0 : Int))).set (g := w.heap.size + 1) (by omega) 4 (.int .i64 ((N : Int) + 1))).set (g := w.heap.size + 1) (by omega) 5 (.slice E6 hn.length f6)).set (g := w.heap.size + 1) (by omega) 6 (.slice F6 qz.length m6)).mono (by omega : w.heap.size ≤ w.heap.size + 2))
  obtain ⟨b0, b1, b2, b3, b4, b5, b6⟩ := z7.get7
  have g0 := z7.f 0 (by simp)
  have g1 := z7.f 1 (by simp)
  have g2 := z7.f 2 (by simp)
  have g3 := z7.f 3 (by simp)
  have g4 := z7.f 4 (by simp)
  have g5 := z7.f 5 (by simp)
  have g6 := z7.f 6 (by simp)
  clear z7 k7 hb07 o7
  go_wp2
  generalize (((((((w7.setCell ⟨w.heap.size + 1, 0, none⟩ (.int .i64 most)).setCell ⟨w.heap.size + 1, 1, none⟩ (.slice D6 R.length d6)).setCell ⟨w.heap.size + 1, 2, none⟩ (.int .i64 (b : Int))).setCell ⟨w.heap.size + 1, 3, none⟩ (.int .i64 (v0 : Int))).setCell ⟨w.heap.size + 1, 4, none⟩ (.int .i64 ((N : Int) + 1))).setCell ⟨w.heap.size + 1, 5, none⟩ (.slice E6 hn.length f6)).setCell ⟨w.heap.size + 1, 6, none⟩ (.slice F6 qz.length m6)) = w9 at *
  obtain ⟨r0, r1, r2, r3, r4, r5, r6⟩ := z9.get7
  refine bodyPost_ret (v := .tuple #[.agg #[.int .i64 most, .slice D6 R.length d6, .int .i64 (b : Int), .int .i64 (v0 : Int), .int .i64 ((N : Int) + 1), .slice E6 hn.length f6, .slice F6 qz.length m6], .bool true, .int .i64 0]) ?_ rfl ⟨D6, d6, E6, f6, F6, m6, _, rfl, HBK.out, k9.out, hb9.out⟩
  rw [results_cell_tmp2 rfl]
  go_simp
end Go.Proofs.YtjcockcilkiggaaGreat
