/- Package clerk: publish moves a batch of requests into a new book of a clerk, whose memory it uses. -/
import Derived.Test.YtjcockcilkiggaaGreatJ36
import Derived.Test.YtjcockcilkiggaaGreatJ32
import Derived.Test.YtjcockcilkiggaaGreatJ34
namespace Go.Proofs.YtjcockcilkiggaaGreat
set_option maxRecDepth 100000
open Go.RowKit

/-- A store into a block that was not there changes nothing that was. -/
theorem grown_far {w w' : World} {row : Option Nat} (h : w.grownBy w' row) {g : Nat} (hg : w.heap.size ≤ g) (j : Nat) (u : Value) : w.grownBy (w'.setCell ⟨g, j, none⟩ u) row :=
  ⟨h.os, h.tape, h.output, Nat.le_trans h.size (by simp [World.setCell]), fun k hk hr => (Below.heap_setCell _ _ _ k (fun e => by rw [e] at hk; exact absurd hk (Nat.not_lt.2 hg))).trans (h.block k hk hr)⟩
/-- A clerk with a book more, in rows behind b0. -/
def PubGives (most b ev nw : Int) (R : List Ak) (hn : List Hd) (ps : List Bp) (T : List Ent) (b0 : Nat) (row : Option Nat) (w : World) (x : Ending) (w' : World) : Prop :=
  ∃ D d E f F h P p, x = .returned (.tuple #[.agg #[.int .i64 most, .slice D R.length d, .int .i64 b, .int .i64 ev, .int .i64 nw, .slice E hn.length f, .slice F (ps ++ [((P, p, T) : Bp)]).length h], .int .i64 0]) ∧ OwnCk w' b0 R hn D E F d f h (ps ++ [(P, p, T)]) ∧ Below b0 w w' ∧ w.grownBy w' row
set_option maxHeartbeats 8000000 in
theorem clerkPublish (most ev nw : Int) (b : Nat) (l : List Ak) (hs : List Hd) (ps : List Bp) (A H B : Option Addr) (c d e b0 : Nat) (w : World) (hq : QGood most l) (hlf : ∀ x ∈ l, AkFits x) (m : Nat) (hpm : ps.length = m + 1) (hm40 : m ≤ 40)
    (bk : List Ent) (hbk : (ps[m]'(by omega)).2.2 = bk) (hg : Good bk) (j : Nat) (hj : j = min b l.length) (hN : (Bin.srt (bk.map (·.1) ++ (l.take j).map (·.1))).length ≤ 24) (T : List Ent) (hT : setAll bk (l.take j) = T) (hgT : Good T) (pm : Nat) (hpmk : prefMark T [] = pm) (hgr : GrowOk hs pm nw)
    (hO : OwnCk w b0 l hs A H B c d e ps) (hb0w : b0 ≤ w.heap.size) (R : List Ak) (hR : l.drop j = R) (hn : List Hd) (hhn : hs ++ [nextOf (lastH hs) pm nw] = hn) :
    Calls Tryz.prog 21 #[.agg #[.int .i64 most, .slice A l.length c, .int .i64 (b : Int), .int .i64 ev, .int .i64 nw, .slice H hs.length d, .slice B ps.length e]] w (PubGives most b ev nw R hn ps T b0 (Value.slice B ps.length e).ownBlock w) := by
  have hb00 : Below w.heap.size w ((w.alloc (.cells #[.int .i64 most, .slice A l.length c, .int .i64 (b : Int), .int .i64 ev, .int .i64 nw, .slice H hs.length d, .slice B ps.length e] 28)).alloc (.cells #[.int .i64 0, .slice none 0 0, .int .i64 0, .int .i64 0, .int .i64 0, .slice none 0 0, .slice none 0 0] 28)) := balloc (balloc (Below.refl _ _) _) _
  have hs0 : ((w.alloc (.cells #[.int .i64 most, .slice A l.length c, .int .i64 (b : Int), .int .i64 ev, .int .i64 nw, .slice H hs.length d, .slice B ps.length e] 28)).alloc (.cells #[.int .i64 0, .slice none 0 0, .int .i64 0, .int .i64 0, .int .i64 0, .slice none 0 0, .slice none 0 0] 28)).heap.size = w.heap.size + 2 := by simp
  have x0 := (Bx.new w _ rfl _ [.int .i64 most, .slice A l.length c, .int .i64 (b : Int), .int .i64 ev, .int .i64 nw, .slice H hs.length d, .slice B ps.length e] 28 rfl).alloc (.cells #[.int .i64 0, .slice none 0 0, .int .i64 0, .int .i64 0, .int .i64 0, .slice none 0 0, .slice none 0 0] 28)
  have z0 := Bx.new (w.alloc (.cells #[.int .i64 most, .slice A l.length c, .int .i64 (b : Int), .int .i64 ev, .int .i64 nw, .slice H hs.length d, .slice B ps.length e] 28)) (w.heap.size + 1) (by simp) _ [.int .i64 0, .slice none 0 0, .int .i64 0, .int .i64 0, .int .i64 0, .slice none 0 0, .slice none 0 0] 28 rfl
  have hlc := own_capE hO.q
  have hl30 : l.length ≤ 30 := by have := hq.len; have := hq.m30; omega
  have hltA := fun k hk => (hO.q.lt k hk).2
  have hltB := fun k hk => (hO.bk.lt k hk).2
  have HLE : Hid (∀ p ∈ ps, ∀ k, (Value.slice p.1 p.2.2.length p.2.1).ownBlock = some k → k < w.heap.size) := fun p hp k hk => ((hO.each p hp).lt k hk).2
  have hTk := fun (w : World) h => Lib.hid (queueTake_ok most A c l b j w hq hlf hlc h hj)
  obtain ⟨U, hU⟩ : ∃ U, l.take j = U := ⟨_, rfl⟩
  rw [hR, hU] at hTk
  rw [hU] at hT hN
  have hU30 : U.length ≤ 1000 := by rw [← hU, List.length_take]; omega
  have hUf : ∀ x ∈ U, askFault x.1 x.2.1 = 0 := fun x hx => hq.each x (by rw [← hU] at hx; exact List.mem_of_mem_take hx)
  obtain ⟨P1, hP1⟩ : ∃ u, (ps[m]'(by omega)).1 = u := ⟨_, rfl⟩
  obtain ⟨P2, hP2⟩ : ∃ u, (ps[m]'(by omega)).2.1 = u := ⟨_, rfl⟩
  have hLb := fun (w : World) h => Lib.hid (clerkLastB B e m ps w hpm (by omega) h P1 P2 bk.length hP1 hP2 (by rw [hbk]))
  have hAf := fun (w : World) (Q : Option Addr) (d : Nat) h1 h2 => Lib.hid (clerkAfter P1 Q P2 d bk U w hg hUf hU30 hN h1 h2 T hT)
  have hRt := fun (w : World) (A : Option Addr) (c : Nat) hA => Lib.hid (treeRoot_yes A c T w hgT hA pm hpmk)
  have hGr := fun (w : World) hA => Lib.hid (chainGrow_ok H d hs pm nw w hA hgr)
  rw [hhn] at hGr
  have rB0 := (hO.books.each _ (List.getElem_mem (by omega : m < ps.length)))
  rw [hbk, hP1] at rB0
  have HPM := Lib.hid hpm
  have hA0 := (Row.ownN hO.q).below hb00
  have hsm : ps.length ≤ 41 := by omega
  obtain ⟨a0, a1, a2, a3, a4, a5, a6⟩ := x0.get7
  clear hq hlf hpm hbk hg hN hT hgT hpmk hgr hhn hR hU hj hP1 hP2 hUf hU30 hlc hl30
  go_enter Tryz.func21, Tryz.ntmps21
  go_wp2_with fail
  refine (hTk _ hA0).out.mono ?_
  rintro xx w1 ⟨D1, d1, E1, e1, rfl, hown1, hown1', hb1⟩
  have hb12 := balloc hb1 (.cells #[.int .i64 most, .slice D1 R.length d1] 24)
  have x2 := x0.below hb12
  have z2 := z0.below hb12
  have q2 := Bx.new w1 w1.heap.size rfl _ [.int .i64 most, .slice D1 R.length d1] 24 rfl
  have oq2 := own_belowN (own_baseQ hown1 (by rw [hs0]; exact Nat.le_refl _ : w.heap.size + 2 ≤ _)) (balloc (Below.refl _ _) (.cells #[.int .i64 most, .slice D1 R.length d1] 24))
  have ou2 := own_belowN hown1' (balloc (Below.refl _ _) (.cells #[.int .i64 most, .slice D1 R.length d1] 24))
  have hb02 := below_chain hb00 hb12
  have hs1 := hb1.size
  have hs2 : w1.heap.size < (w1.alloc (.cells #[.int .i64 most, .slice D1 R.length d1] 24)).heap.size := by simp
  obtain ⟨pq, hpq⟩ : ∃ pq, w1.heap.size = pq := ⟨_, rfl⟩
  rw [hpq] at q2 hs1 hs2
  clear a0 a1 a2 a3 a4 a5 a6 x0 z0 hA0 hown1 hown1' hb1 hb12 hTk
  obtain ⟨a0, a1, a2, a3, a4, a5, a6⟩ := x2.get7
  rw [HPM.out] at a6
  have hB2 := hO.books.below hb02
  go_wp2_with fail
  generalize (w1.alloc (.cells #[.int .i64 most, .slice D1 R.length d1] 24)) = w2 at *
  refine (hLb _ hB2).out.mono ?_
  rintro xx w2' ⟨rfl, hw⟩
  have hw := hw.symm
  subst hw
  go_wp2_with fail
  refine (hAf _ E1 e1 (rB0.below hb02) (Row.ownN ou2)).out.mono ?_
  rintro xx w3 ⟨P5, p5, rfl, hown3, hb3⟩
  have hs3 := hb3.size
  have x3 := x2.below hb3
  have z3 := z2.below hb3
  have q3 := q2.below hb3
  have oq3 := own_belowN oq2 hb3
  have oe3 := own_baseQ hown3 (by omega : w.heap.size + 2 ≤ _)
  have hb03 := below_chain hb02 hb3
  clear a0 a1 a2 a3 a4 a5 a6 x2 z2 q2 oq2 ou2 hb02 hB2 hLb hAf rB0 hown3 hb3
  go_wp2_with fail
  refine (hRt _ P5 p5 (Row.ownN oe3)).out.mono ?_
  rintro xx w4 ⟨rfl, hb4⟩
  have hs4 := hb4.size
  have x4 := x3.below hb4
  have z4 := z3.below hb4
  have q4 := q3.below hb4
  have oq4 := own_belowN oq3 hb4
  have oe4 := own_belowN oe3 hb4
  have hb04 := below_chain hb03 hb4
  have hH4 := (Row.ownN hO.hd).below hb04
  clear x3 z3 q3 oq3 oe3 hb03 hRt hb4
  obtain ⟨a0, a1, a2, a3, a4, a5, a6⟩ := x4.get7
  go_wp2_with fail
  refine (hGr _ hH4).out.mono ?_
  rintro xx v6 ⟨E, f, rfl, hown6, hb6⟩
  have hs6 := hb6.size
  have x6 := x4.below hb6
  have z6 := z4.below hb6
  have q6 := q4.below hb6
  have oq6 := own_belowN oq4 hb6
  have oe6 := own_belowN oe4 hb6
  have oh6 := own_baseQ hown6 (by omega : w.heap.size + 2 ≤ _)
  have hb06' := below_chain hb04 hb6
  have hb06 : Below b0 w v6 := hb06'.mono hb0w
  have hbk6 := own_belowN hO.bk hb06'
  have HE6 : Hid (∀ p ∈ ps, v6.ownsRow b0 51 2 (.slice p.1 p.2.2.length p.2.1) p.2.2.length (encells p.2.2)) := fun p hp => own_belowN (hO.each p hp) hb06'
  have hb0v : b0 ≤ v6.heap.size := by omega
  have hb0w3 : b0 ≤ w.heap.size + 2 := by omega
  have neq : ∀ k, (Value.slice D1 R.length d1).ownBlock = some k → k ≠ w.heap.size := fun k hk => by have := (oq6.lt k hk).1; omega
  have neh : ∀ k, (Value.slice E hn.length f).ownBlock = some k → k ≠ w.heap.size := fun k hk => by have := (oh6.lt k hk).1; omega
  have nee : ∀ k, (Value.slice P5 T.length p5).ownBlock = some k → k ≠ w.heap.size := fun k hk => by have := (oe6.lt k hk).1; omega
  have neqZ : ∀ k, (Value.slice D1 R.length d1).ownBlock = some k → w.heap.size + 2 ≤ k := fun k hk => (oq6.lt k hk).1
  have nehZ : ∀ k, (Value.slice E hn.length f).ownBlock = some k → w.heap.size + 2 ≤ k := fun k hk => (oh6.lt k hk).1
  have neeZ : ∀ k, (Value.slice P5 T.length p5).ownBlock = some k → w.heap.size + 2 ≤ k := fun k hk => (oe6.lt k hk).1
  have HPQ := Lib.hid hpq
  clear a0 a1 a2 a3 a4 a5 a6 x4 z4 q4 oq4 oe4 hb04 hH4 hGr hown6 hb6 hO hb00 hpq
  obtain ⟨a0, a1, a2, a3, a4, a5, a6⟩ := x6.get7
  obtain ⟨⟨qq0, qq1⟩, _⟩ := q6.get2
  go_wp2
  refine wp_region_held_drew (S := fun W => W.cell? ⟨pq, 0, none⟩ = some (.int .i64 most) ∧ W.cell? ⟨pq, 1, none⟩ = some (.slice D1 R.length d1)) (by kernel_rfl) ⟨qq0, qq1⟩ (fun hHeld => ?_)
  refine wpAnyH_take (i := 0) (v := ?_) rfl (by kernel_rfl) (by kernel_rfl) (by kernel_rfl) (fun _ _ _ h => h) (Or.inl ⟨by rfl, ?_⟩) (by assumption) ?_
  rotate_left
  · intro wt hSt
    try dsimp only at hSt
    first | (go_simp; done) | (go_simp; with_reducible rfl)
  simp only [Act.put, List.setIfInBounds_toArray, List.set_cons_zero, List.set_cons_succ, List.getElem_toArray, List.getElem_cons_zero]
  refine wpAnyH_take (i := 1) (v := ?_) rfl (by kernel_rfl) (by kernel_rfl) (by kernel_rfl) (fun _ _ _ h => h) (Or.inl ⟨by rfl, ?_⟩) (by assumption) ?_
  rotate_left
  · intro wt hSt
    try dsimp only at hSt
    first | (go_simp; done) | (go_simp; with_reducible rfl)
  simp only [Act.put, List.setIfInBounds_toArray, List.set_cons_zero, List.set_cons_succ, List.getElem_toArray, List.getElem_cons_zero, List.getElem_cons_succ]
  refine wpAnyH_take (i := 2) (v := ?_) rfl (by kernel_rfl) (by kernel_rfl) (by kernel_rfl) (fun _ _ _ h => h) (Or.inl ⟨by rfl, ?_⟩) (by assumption) ?_
  rotate_left
  · intro wt hSt
    try dsimp only at hSt
    first | (go_simp; done) | (go_simp; with_reducible rfl)
  simp only [Act.put, List.setIfInBounds_toArray, List.set_cons_zero, List.set_cons_succ, List.getElem_toArray, List.getElem_cons_zero, List.getElem_cons_succ]
  refine wpAnyH_take (i := 4) (v := ?_) rfl (by kernel_rfl) (by kernel_rfl) (by kernel_rfl) (fun _ _ _ h => h) (Or.inl ⟨by rfl, ?_⟩) (by assumption) ?_
  rotate_left
  · intro wt hSt
    try dsimp only at hSt
    first | (go_simp; done) | (go_simp; with_reducible rfl)
  simp only [Act.put, List.setIfInBounds_toArray, List.set_cons_zero, List.set_cons_succ, List.getElem_toArray, List.getElem_cons_zero, List.getElem_cons_succ]
  refine wpAnyH_ready (rs := [3, 5]) (by kernel_rfl) (by simp) ?_
  refine AllReadyH.cons rfl (fun K hK => ?_) (AllReadyH.cons rfl (fun K hK => ?_) (AllReadyH.nil))
  · skip
    go_simp
    refine hK.out _ _ ⟨qq0, qq1⟩ (fun hHeld => ?_)
    clear hK K
    refine wpAnyH_take (i := 7) (v := ?_) rfl (by kernel_rfl) (by kernel_rfl) (by kernel_rfl) (fun _ _ _ h => h) (Or.inl ⟨by rfl, ?_⟩) (by assumption) ?_
    rotate_left
    · intro wt hSt
      try dsimp only at hSt
      first | (go_simp; done) | (go_simp; with_reducible rfl)
    simp only [Act.put, List.setIfInBounds_toArray, List.set_cons_zero, List.set_cons_succ, List.getElem_toArray, List.getElem_cons_zero, List.getElem_cons_succ]
    refine wpAnyH_ready (rs := [5]) (by kernel_rfl) (by simp) ?_
    refine AllReadyH.cons rfl (fun K hK => ?_) (AllReadyH.nil)
    go_simp
    have hbA : Below v6.heap.size v6 (v6.drew.alloc (.cells #[.slice P5 T.length p5] 39)) := balloc (bdrew (Below.refl _ _)) _
    have x6A := (x6.below hbA).get7.2.2.2.2.2.2
    have x6B := (x6.alloc (.cells #[.slice P5 T.length p5] 39)).get7.2.2.2.2.2.2
    refine hK.out _ _ ⟨kept qq0 hbA, kept qq1 hbA⟩ (fun hHeld => ?_)
    clear hK K
    refine wpAnyH_ready (rs := [6]) (by kernel_rfl) (by simp) ?_
    refine AllReadyH.cons rfl (fun K hK => ?_) (AllReadyH.nil)
    refine step_app_booksAt rfl (.tmp 60) (.tmp 62) rfl b0 (.slice B ps.length e) ps ?_ (own_belowN hbk6 hbA) (some ⟨v6.heap.size, 0, none⟩) 1 [(P5, p5, T)] (by simp) ?_ (Row.new _ _ _ _ _ rfl rfl) (by simp; omega) (Nat.le_trans hb0v hbA.size) ?_
    · first | rfl | simp [Act.eval, Act.put]
    · first | rfl | simp [Act.eval, Act.put]
    intro v7 w7 hown7' hgrow7 hat7
    obtain ⟨qs, hqs⟩ : ∃ qs, ps ++ [(P5, p5, T)] = qs := ⟨_, rfl⟩
    rw [hqs] at hown7'
    have hown7 := hown7'
    clear hown7'
    obtain ⟨F, m1, rfl⟩ := own_shape hown7
    have HQS := Lib.hid hqs
    have hlt6 := fun k hk => hbk6.lt k hk
    have x7 := (x6.below hbA).kept hgrow7 (fun h => by have := (hltB _ h.symm); omega)
    have z7 := (z6.below hbA).kept hgrow7 (fun h => by have := (hltB _ h.symm); omega)
    have q7 := (q6.below hbA).kept hgrow7 (fun h => by have := (hltB _ h.symm); omega)
    have oq7 := own_other (own_belowN oq6 hbA) (own_belowN hbk6 hbA) (by decide) hgrow7
    have oh7 := own_other (own_belowN oh6 hbA) (own_belowN hbk6 hbA) (by decide) hgrow7
    have oe7 := own_other (own_belowN oe6 hbA) (own_belowN hbk6 hbA) (by decide) hgrow7
    have HE7 : Hid (∀ p ∈ ps, w7.ownsRow b0 51 2 (.slice p.1 p.2.2.length p.2.1) p.2.2.length (encells p.2.2)) := fun p hp => own_other (own_belowN (HE6.out p hp) hbA) (own_belowN hbk6 hbA) (by decide) hgrow7
    have hb7 : Below b0 w w7 := (hb06.trans (hbA.mono hb0v)).grown hgrow7 (Nat.le_trans hb0v hbA.size) (fun j hj => (hlt6 j hj).1)
    have hgw7 := (grown_below hb06' (Value.slice B ps.length e).ownBlock).trans ((grown_below hbA _).trans hgrow7)
    have hltF : ∀ k, (Value.slice F qs.length m1).ownBlock = some k → k ≠ w.heap.size ∧ k ≠ w.heap.size + 1 := fun k hk => by
      rcases hat7 with h | h
      · rw [h] at hk
        have := hltB k hk
        omega
      · rw [h] at hk
        injection hk with hk
        have hk' : v6.heap.size + 1 = k := by simpa using hk
        omega
    obtain ⟨c0, c1, c2, c3, c4, c5, c6⟩ := x7.get7
    have f0 := x7.f 0 (by simp)
    have f1 := x7.f 1 (by simp)
    have f5 := x7.f 5 (by simp)
    have f6 := x7.f 6 (by simp)
    obtain ⟨⟨r70, r71⟩, _⟩ := q7.get2
    refine hK.out _ _ ⟨r70, r71⟩ (fun hHeld => ?_)
    clear hK K
    try simp only [Act.put, List.setIfInBounds_toArray, List.set_cons_zero, List.set_cons_succ, List.getElem_toArray, List.getElem_cons_zero, List.getElem_cons_succ]
    refine wpAnyH_ready (rs := [8]) (by kernel_rfl) (by simp) ?_
    refine AllReadyH.cons rfl (fun K hK => ?_) (AllReadyH.nil)
    go_simp
    have q8 := (q7.far (h := w.heap.size) (by omega) 0 (.int .i64 most)).far (h := w.heap.size) (by omega) 1 (.slice D1 R.length d1)
    obtain ⟨⟨r80, r81⟩, _⟩ := q8.get2
    refine hK.out _ _ ⟨r80, r81⟩ (fun hHeld => ?_)
    clear hK K
    refine wpAnyH_take (i := 9) (v := ?_) rfl (by kernel_rfl) (by kernel_rfl) (by kernel_rfl) (fun _ _ _ h => h) (Or.inl ⟨by rfl, ?_⟩) (by assumption) ?_
    rotate_left
    · intro wt hSt
      try dsimp only at hSt
      first | (go_simp; done) | (go_simp; with_reducible rfl)
    simp only [Act.put, List.setIfInBounds_toArray, List.set_cons_zero, List.set_cons_succ, List.getElem_toArray, List.getElem_cons_zero, List.getElem_cons_succ]
    refine wpAnyH_ready (rs := [10]) (by kernel_rfl) (by simp) ?_
    refine AllReadyH.cons rfl (fun K hK => ?_) (AllReadyH.nil)
    go_simp
    have q9 := q8.far (h := w.heap.size) (by omega) 5 (.slice E hn.length f)
    obtain ⟨⟨r90, r91⟩, _⟩ := q9.get2
    refine hK.out _ _ ⟨r90, r91⟩ (fun hHeld => ?_)
    clear hK K
    refine wpAnyH_take (i := 11) (v := ?_) rfl (by kernel_rfl) (by kernel_rfl) (by kernel_rfl) (fun _ _ _ h => h) (Or.inl ⟨by rfl, ?_⟩) (by assumption) ?_
    rotate_left
    · intro wt hSt
      try dsimp only at hSt
      first | (go_simp; done) | (go_simp; with_reducible rfl)
    simp only [Act.put, List.setIfInBounds_toArray, List.set_cons_zero, List.set_cons_succ, List.getElem_toArray, List.getElem_cons_zero, List.getElem_cons_succ]
    refine wpAnyH_ready (rs := [12]) (by kernel_rfl) (by simp) ?_
    refine AllReadyH.cons rfl (fun K hK => ?_) (AllReadyH.nil)
    go_simp
    have q10 := q9.far (h := w.heap.size) (by omega) 6 (.slice F qs.length m1)
    obtain ⟨⟨r100, r101⟩, _⟩ := q10.get2
    refine hK.out _ _ ⟨r100, r101⟩ (fun hHeld => ?_)
    clear hK K
    refine wpAnyH_done (by kernel_rfl) ?_ _
    have x8 : Bx ((((w7.setCell ⟨w.heap.size, 0, none⟩ (.int .i64 most)).setCell ⟨w.heap.size, 1, none⟩ (.slice D1 R.length d1)).setCell ⟨w.heap.size, 5, none⟩ (.slice E hn.length f)).setCell ⟨w.heap.size, 6, none⟩ (.slice F qs.length m1)) w.heap.size [.int .i64 most, .slice D1 R.length d1, .int .i64 (b : Int), .int .i64 ev, .int .i64 nw, .slice E hn.length f, .slice F qs.length m1] := ((((x7.set 0 (.int .i64 most)).set 1 (.slice D1 R.length d1)).set 5 (.slice E hn.length f)).set 6 (.slice F qs.length m1))
    have z8 := ((((z7.far (h := w.heap.size) (by omega) 0 (.int .i64 most)).far (h := w.heap.size) (by omega) 1 (.slice D1 R.length d1)).far (h := w.heap.size) (by omega) 5 (.slice E hn.length f)).far (h := w.heap.size) (by omega) 6 (.slice F qs.length m1))
    have hb8 := ((((hb7.setCell (p := ⟨w.heap.size, 0, none⟩) hb0w (.int .i64 most)).setCell (p := ⟨w.heap.size, 1, none⟩) hb0w (.slice D1 R.length d1)).setCell (p := ⟨w.heap.size, 5, none⟩) hb0w (.slice E hn.length f)).setCell (p := ⟨w.heap.size, 6, none⟩) hb0w (.slice F qs.length m1))
    have hg8 := (grown_far (grown_far (grown_far (grown_far hgw7 (Nat.le_refl _) 0 (.int .i64 most)) (Nat.le_refl _) 1 (.slice D1 R.length d1)) (Nat.le_refl _) 5 (.slice E hn.length f)) (Nat.le_refl _) 6 (.slice F qs.length m1))
    have k8 : OwnCk ((((w7.setCell ⟨w.heap.size, 0, none⟩ (.int .i64 most)).setCell ⟨w.heap.size, 1, none⟩ (.slice D1 R.length d1)).setCell ⟨w.heap.size, 5, none⟩ (.slice E hn.length f)).setCell ⟨w.heap.size, 6, none⟩ (.slice F qs.length m1)) b0 R hn D1 E F d1 f m1 qs := ⟨own_baseQ (own_far (own_far (own_far (own_far oq7 neq 0 (.int .i64 most)) neq 1 (.slice D1 R.length d1)) neq 5 (.slice E hn.length f)) neq 6 (.slice F qs.length m1)) hb0w3, own_baseQ (own_far (own_far (own_far (own_far oh7 neh 0 (.int .i64 most)) neh 1 (.slice D1 R.length d1)) neh 5 (.slice E hn.length f)) neh 6 (.slice F qs.length m1)) hb0w3, (own_far (own_far (own_far (own_far hown7 (fun k hk => (hltF k hk).1) 0 (.int .i64 most)) (fun k hk => (hltF k hk).1) 1 (.slice D1 R.length d1)) (fun k hk => (hltF k hk).1) 5 (.slice E hn.length f)) (fun k hk => (hltF k hk).1) 6 (.slice F qs.length m1)), fun p hp => by
      rw [← HQS.out] at hp
      rcases List.mem_append.1 hp with h | h
      · exact (own_far (own_far (own_far (own_far (HE7.out p h) (fun k hk => by have := HLE.out p h k hk; omega) 0 (.int .i64 most)) (fun k hk => by have := HLE.out p h k hk; omega) 1 (.slice D1 R.length d1)) (fun k hk => by have := HLE.out p h k hk; omega) 5 (.slice E hn.length f)) (fun k hk => by have := HLE.out p h k hk; omega) 6 (.slice F qs.length m1))
      · rw [List.mem_singleton.1 h]; exact own_baseQ (own_far (own_far (own_far (own_far oe7 nee 0 (.int .i64 most)) nee 1 (.slice D1 R.length d1)) nee 5 (.slice E hn.length f)) nee 6 (.slice F qs.length m1)) hb0w3⟩
    clear x7 z7 q7 q8 q9 q10 oq7 oh7 oe7 hown7 hb7 c0 c1 c2 c3 c4 c5 c6 f0 f1 f5 f6 r70 r71 r80 r81 r90 r91 r100 r101 HE7 hat7 hgrow7 x6A x6B hlt6
    obtain ⟨c0, c1, c2, c3, c4, c5, c6⟩ := x8.get7
    have z9 : Bx (((((((((((w7.setCell ⟨w.heap.size, 0, none⟩ (.int .i64 most)).setCell ⟨w.heap.size, 1, none⟩ (.slice D1 R.length d1)).setCell ⟨w.heap.size, 5, none⟩ (.slice E hn.length f)).setCell ⟨w.heap.size, 6, none⟩ (.slice F qs.length m1)).setCell ⟨w.heap.size + 1, 0, none⟩ (.int .i64 most)).setCell ⟨w.heap.size + 1, 1, none⟩ (.slice D1 R.length d1)).setCell ⟨w.heap.size + 1, 2, none⟩ (.int .i64 (b : Int))).setCell ⟨w.heap.size + 1, 3, none⟩ (.int .i64 ev)).setCell ⟨w.heap.size + 1, 4, none⟩ (.int .i64 nw)).setCell ⟨w.heap.size + 1, 5, none⟩ (.slice E hn.length f)).setCell ⟨w.heap.size + 1, 6, none⟩ (.slice F qs.length m1)) (w.heap.size + 1) [.int .i64 most, .slice D1 R.length d1, .int .i64 (b : Int), .int .i64 ev, .int .i64 nw, .slice E hn.length f, .slice F qs.length m1] := (((((((z8.set 0 (.int .i64 most)).set 1 (.slice D1 R.length d1)).set 2 (.int .i64 (b : Int))).set 3 (.int .i64 ev)).set 4 (.int .i64 nw)).set 5 (.slice E hn.length f)).set 6 (.slice F qs.length m1))
    have hb9 := Lib.hid (((((((hb8.setCell (p := ⟨w.heap.size + 1, 0, none⟩) (by omega : b0 ≤ w.heap.size + 1) (.int .i64 most)).setCell (p := ⟨w.heap.size + 1, 1, none⟩) (by omega : b0 ≤ w.heap.size + 1) (.slice D1 R.length d1)).setCell (p := ⟨w.heap.size + 1, 2, none⟩) (by omega : b0 ≤ w.heap.size + 1) (.int .i64 (b : Int))).setCell (p := ⟨w.heap.size + 1, 3, none⟩) (by omega : b0 ≤ w.heap.size + 1) (.int .i64 ev)).setCell (p := ⟨w.heap.size + 1, 4, none⟩) (by omega : b0 ≤ w.heap.size + 1) (.int .i64 nw)).setCell (p := ⟨w.heap.size + 1, 5, none⟩) (by omega : b0 ≤ w.heap.size + 1) (.slice E hn.length f)).setCell (p := ⟨w.heap.size + 1, 6, none⟩) (by omega : b0 ≤ w.heap.size + 1) (.slice F qs.length m1))
    have k9 := Lib.hid (⟨(own_far (own_far (own_far (own_far (own_far (own_far (own_far k8.q (fun k hk => by have := neqZ k hk; omega) 0 (.int .i64 most)) (fun k hk => by have := neqZ k hk; omega) 1 (.slice D1 R.length d1)) (fun k hk => by have := neqZ k hk; omega) 2 (.int .i64 (b : Int))) (fun k hk => by have := neqZ k hk; omega) 3 (.int .i64 ev)) (fun k hk => by have := neqZ k hk; omega) 4 (.int .i64 nw)) (fun k hk => by have := neqZ k hk; omega) 5 (.slice E hn.length f)) (fun k hk => by have := neqZ k hk; omega) 6 (.slice F qs.length m1)), (own_far (own_far (own_far (own_far (own_far (own_far (own_far k8.hd (fun k hk => by have := nehZ k hk; omega) 0 (.int .i64 most)) (fun k hk => by have := nehZ k hk; omega) 1 (.slice D1 R.length d1)) (fun k hk => by have := nehZ k hk; omega) 2 (.int .i64 (b : Int))) (fun k hk => by have := nehZ k hk; omega) 3 (.int .i64 ev)) (fun k hk => by have := nehZ k hk; omega) 4 (.int .i64 nw)) (fun k hk => by have := nehZ k hk; omega) 5 (.slice E hn.length f)) (fun k hk => by have := nehZ k hk; omega) 6 (.slice F qs.length m1)), (own_far (own_far (own_far (own_far (own_far (own_far (own_far k8.bk (fun k hk => (hltF k hk).2) 0 (.int .i64 most)) (fun k hk => (hltF k hk).2) 1 (.slice D1 R.length d1)) (fun k hk => (hltF k hk).2) 2 (.int .i64 (b : Int))) (fun k hk => (hltF k hk).2) 3 (.int .i64 ev)) (fun k hk => (hltF k hk).2) 4 (.int .i64 nw)) (fun k hk => (hltF k hk).2) 5 (.slice E hn.length f)) (fun k hk => (hltF k hk).2) 6 (.slice F qs.length m1)), fun p hp => by
      have hne : ∀ k, (Value.slice p.1 p.2.2.length p.2.1).ownBlock = some k → k ≠ w.heap.size + 1 := by
        rw [← HQS.out] at hp
        rcases List.mem_append.1 hp with h | h
        · exact fun k hk => by have := HLE.out p h k hk; omega
        · rw [List.mem_singleton.1 h]; exact fun k hk => by have := neeZ k hk; omega
      exact (own_far (own_far (own_far (own_far (own_far (own_far (own_far (k8.each p hp) hne 0 (.int .i64 most)) hne 1 (.slice D1 R.length d1)) hne 2 (.int .i64 (b : Int))) hne 3 (.int .i64 ev)) hne 4 (.int .i64 nw)) hne 5 (.slice E hn.length f)) hne 6 (.slice F qs.length m1))⟩ : OwnCk _ b0 R hn D1 E F d1 f m1 qs)
    have hg9 := Lib.hid (grown_far (grown_far (grown_far (grown_far (grown_far (grown_far (grown_far hg8 (Nat.le_succ _) 0 (.int .i64 most)) (Nat.le_succ _) 1 (.slice D1 R.length d1)) (Nat.le_succ _) 2 (.int .i64 (b : Int))) (Nat.le_succ _) 3 (.int .i64 ev)) (Nat.le_succ _) 4 (.int .i64 nw)) (Nat.le_succ _) 5 (.slice E hn.length f)) (Nat.le_succ _) 6 (.slice F qs.length m1))
    obtain ⟨y0, y1, y2, y3, y4, y5, y6⟩ := z8.get7
    have g0 := z8.f 0 (by simp)
    have g1 := z8.f 1 (by simp)
    have g2 := z8.f 2 (by simp)
    have g3 := z8.f 3 (by simp)
    have g4 := z8.f 4 (by simp)
    have g5 := z8.f 5 (by simp)
    have g6 := z8.f 6 (by simp)
    clear z8 k8 x8 hb8 hg8 hgw7
    go_wp2
    generalize (((((((((((w7.setCell ⟨w.heap.size, 0, none⟩ (.int .i64 most)).setCell ⟨w.heap.size, 1, none⟩ (.slice D1 R.length d1)).setCell ⟨w.heap.size, 5, none⟩ (.slice E hn.length f)).setCell ⟨w.heap.size, 6, none⟩ (.slice F qs.length m1)).setCell ⟨w.heap.size + 1, 0, none⟩ (.int .i64 most)).setCell ⟨w.heap.size + 1, 1, none⟩ (.slice D1 R.length d1)).setCell ⟨w.heap.size + 1, 2, none⟩ (.int .i64 (b : Int))).setCell ⟨w.heap.size + 1, 3, none⟩ (.int .i64 ev)).setCell ⟨w.heap.size + 1, 4, none⟩ (.int .i64 nw)).setCell ⟨w.heap.size + 1, 5, none⟩ (.slice E hn.length f)).setCell ⟨w.heap.size + 1, 6, none⟩ (.slice F qs.length m1)) = w9 at *
    obtain ⟨r0, r1, r2, r3, r4, r5, r6⟩ := z9.get7
    refine bodyPost_ret (v := .tuple #[.agg #[.int .i64 most, .slice D1 R.length d1, .int .i64 (b : Int), .int .i64 ev, .int .i64 nw, .slice E hn.length f, .slice F qs.length m1], .int .i64 0]) ?_ rfl ⟨D1, d1, E, f, F, m1, P5, p5, by rw [← HQS.out], by rw [HQS.out]; exact k9.out, hb9.out, hg9.out⟩
    rw [results_cell_tmp rfl]
    go_simp
  · skip
    go_simp
    have hbA : Below v6.heap.size v6 (v6.drew.alloc (.cells #[.slice P5 T.length p5] 39)) := balloc (bdrew (Below.refl _ _)) _
    have x6A := (x6.below hbA).get7.2.2.2.2.2.2
    have x6B := (x6.alloc (.cells #[.slice P5 T.length p5] 39)).get7.2.2.2.2.2.2
    refine hK.out _ _ ⟨kept qq0 hbA, kept qq1 hbA⟩ (fun hHeld => ?_)
    clear hK K
    refine wpAnyH_ready (rs := [3]) (by kernel_rfl) (by simp) ?_
    refine AllReadyH.cons rfl (fun K hK => ?_) (AllReadyH.nil)
    go_simp
    refine hK.out _ _ ⟨kept qq0 hbA, kept qq1 hbA⟩ (fun hHeld => ?_)
    clear hK K
    refine wpAnyH_take (i := 7) (v := ?_) rfl (by kernel_rfl) (by kernel_rfl) (by kernel_rfl) (fun _ _ _ h => h) (Or.inl ⟨by rfl, ?_⟩) (by assumption) ?_
    rotate_left
    · intro wt hSt
      try dsimp only at hSt
      first | (go_simp; done) | (go_simp; with_reducible rfl)
    simp only [Act.put, List.setIfInBounds_toArray, List.set_cons_zero, List.set_cons_succ, List.getElem_toArray, List.getElem_cons_zero, List.getElem_cons_succ]
    refine wpAnyH_ready (rs := [6]) (by kernel_rfl) (by simp) ?_
    refine AllReadyH.cons rfl (fun K hK => ?_) (AllReadyH.nil)
    refine step_app_booksAt rfl (.tmp 60) (.tmp 62) rfl b0 (.slice B ps.length e) ps ?_ (own_belowN hbk6 hbA) (some ⟨v6.heap.size, 0, none⟩) 1 [(P5, p5, T)] (by simp) ?_ (Row.new _ _ _ _ _ rfl rfl) (by simp; omega) (Nat.le_trans hb0v hbA.size) ?_
    · first | rfl | simp [Act.eval, Act.put]
    · first | rfl | simp [Act.eval, Act.put]
    intro v7 w7 hown7' hgrow7 hat7
    obtain ⟨qs, hqs⟩ : ∃ qs, ps ++ [(P5, p5, T)] = qs := ⟨_, rfl⟩
    rw [hqs] at hown7'
    have hown7 := hown7'
    clear hown7'
    obtain ⟨F, m1, rfl⟩ := own_shape hown7
    have HQS := Lib.hid hqs
    have hlt6 := fun k hk => hbk6.lt k hk
    have x7 := (x6.below hbA).kept hgrow7 (fun h => by have := (hltB _ h.symm); omega)
    have z7 := (z6.below hbA).kept hgrow7 (fun h => by have := (hltB _ h.symm); omega)
    have q7 := (q6.below hbA).kept hgrow7 (fun h => by have := (hltB _ h.symm); omega)
    have oq7 := own_other (own_belowN oq6 hbA) (own_belowN hbk6 hbA) (by decide) hgrow7
    have oh7 := own_other (own_belowN oh6 hbA) (own_belowN hbk6 hbA) (by decide) hgrow7
    have oe7 := own_other (own_belowN oe6 hbA) (own_belowN hbk6 hbA) (by decide) hgrow7
    have HE7 : Hid (∀ p ∈ ps, w7.ownsRow b0 51 2 (.slice p.1 p.2.2.length p.2.1) p.2.2.length (encells p.2.2)) := fun p hp => own_other (own_belowN (HE6.out p hp) hbA) (own_belowN hbk6 hbA) (by decide) hgrow7
    have hb7 : Below b0 w w7 := (hb06.trans (hbA.mono hb0v)).grown hgrow7 (Nat.le_trans hb0v hbA.size) (fun j hj => (hlt6 j hj).1)
    have hgw7 := (grown_below hb06' (Value.slice B ps.length e).ownBlock).trans ((grown_below hbA _).trans hgrow7)
    have hltF : ∀ k, (Value.slice F qs.length m1).ownBlock = some k → k ≠ w.heap.size ∧ k ≠ w.heap.size + 1 := fun k hk => by
      rcases hat7 with h | h
      · rw [h] at hk
        have := hltB k hk
        omega
      · rw [h] at hk
        injection hk with hk
        have hk' : v6.heap.size + 1 = k := by simpa using hk
        omega
    obtain ⟨c0, c1, c2, c3, c4, c5, c6⟩ := x7.get7
    have f0 := x7.f 0 (by simp)
    have f1 := x7.f 1 (by simp)
    have f5 := x7.f 5 (by simp)
    have f6 := x7.f 6 (by simp)
    obtain ⟨⟨r70, r71⟩, _⟩ := q7.get2
    refine hK.out _ _ ⟨r70, r71⟩ (fun hHeld => ?_)
    clear hK K
    try simp only [Act.put, List.setIfInBounds_toArray, List.set_cons_zero, List.set_cons_succ, List.getElem_toArray, List.getElem_cons_zero, List.getElem_cons_succ]
    refine wpAnyH_ready (rs := [8]) (by kernel_rfl) (by simp) ?_
    refine AllReadyH.cons rfl (fun K hK => ?_) (AllReadyH.nil)
    go_simp
    have q8 := (q7.far (h := w.heap.size) (by omega) 0 (.int .i64 most)).far (h := w.heap.size) (by omega) 1 (.slice D1 R.length d1)
    obtain ⟨⟨r80, r81⟩, _⟩ := q8.get2
    refine hK.out _ _ ⟨r80, r81⟩ (fun hHeld => ?_)
    clear hK K
    refine wpAnyH_take (i := 9) (v := ?_) rfl (by kernel_rfl) (by kernel_rfl) (by kernel_rfl) (fun _ _ _ h => h) (Or.inl ⟨by rfl, ?_⟩) (by assumption) ?_
    rotate_left
    · intro wt hSt
      try dsimp only at hSt
      first | (go_simp; done) | (go_simp; with_reducible rfl)
    simp only [Act.put, List.setIfInBounds_toArray, List.set_cons_zero, List.set_cons_succ, List.getElem_toArray, List.getElem_cons_zero, List.getElem_cons_succ]
    refine wpAnyH_ready (rs := [10]) (by kernel_rfl) (by simp) ?_
    refine AllReadyH.cons rfl (fun K hK => ?_) (AllReadyH.nil)
    go_simp
    have q9 := q8.far (h := w.heap.size) (by omega) 5 (.slice E hn.length f)
    obtain ⟨⟨r90, r91⟩, _⟩ := q9.get2
    refine hK.out _ _ ⟨r90, r91⟩ (fun hHeld => ?_)
    clear hK K
    refine wpAnyH_take (i := 11) (v := ?_) rfl (by kernel_rfl) (by kernel_rfl) (by kernel_rfl) (fun _ _ _ h => h) (Or.inl ⟨by rfl, ?_⟩) (by assumption) ?_
    rotate_left
    · intro wt hSt
      try dsimp only at hSt
      first | (go_simp; done) | (go_simp; with_reducible rfl)
    simp only [Act.put, List.setIfInBounds_toArray, List.set_cons_zero, List.set_cons_succ, List.getElem_toArray, List.getElem_cons_zero, List.getElem_cons_succ]
    refine wpAnyH_ready (rs := [12]) (by kernel_rfl) (by simp) ?_
    refine AllReadyH.cons rfl (fun K hK => ?_) (AllReadyH.nil)
    go_simp
    have q10 := q9.far (h := w.heap.size) (by omega) 6 (.slice F qs.length m1)
    obtain ⟨⟨r100, r101⟩, _⟩ := q10.get2
    refine hK.out _ _ ⟨r100, r101⟩ (fun hHeld => ?_)
    clear hK K
    refine wpAnyH_done (by kernel_rfl) ?_ _
    have x8 : Bx ((((w7.setCell ⟨w.heap.size, 0, none⟩ (.int .i64 most)).setCell ⟨w.heap.size, 1, none⟩ (.slice D1 R.length d1)).setCell ⟨w.heap.size, 5, none⟩ (.slice E hn.length f)).setCell ⟨w.heap.size, 6, none⟩ (.slice F qs.length m1)) w.heap.size [.int .i64 most, .slice D1 R.length d1, .int .i64 (b : Int), .int .i64 ev, .int .i64 nw, .slice E hn.length f, .slice F qs.length m1] := ((((x7.set 0 (.int .i64 most)).set 1 (.slice D1 R.length d1)).set 5 (.slice E hn.length f)).set 6 (.slice F qs.length m1))
    have z8 := ((((z7.far (h := w.heap.size) (by omega) 0 (.int .i64 most)).far (h := w.heap.size) (by omega) 1 (.slice D1 R.length d1)).far (h := w.heap.size) (by omega) 5 (.slice E hn.length f)).far (h := w.heap.size) (by omega) 6 (.slice F qs.length m1))
    have hb8 := ((((hb7.setCell (p := ⟨w.heap.size, 0, none⟩) hb0w (.int .i64 most)).setCell (p := ⟨w.heap.size, 1, none⟩) hb0w (.slice D1 R.length d1)).setCell (p := ⟨w.heap.size, 5, none⟩) hb0w (.slice E hn.length f)).setCell (p := ⟨w.heap.size, 6, none⟩) hb0w (.slice F qs.length m1))
    have hg8 := (grown_far (grown_far (grown_far (grown_far hgw7 (Nat.le_refl _) 0 (.int .i64 most)) (Nat.le_refl _) 1 (.slice D1 R.length d1)) (Nat.le_refl _) 5 (.slice E hn.length f)) (Nat.le_refl _) 6 (.slice F qs.length m1))
    have k8 : OwnCk ((((w7.setCell ⟨w.heap.size, 0, none⟩ (.int .i64 most)).setCell ⟨w.heap.size, 1, none⟩ (.slice D1 R.length d1)).setCell ⟨w.heap.size, 5, none⟩ (.slice E hn.length f)).setCell ⟨w.heap.size, 6, none⟩ (.slice F qs.length m1)) b0 R hn D1 E F d1 f m1 qs := ⟨own_baseQ (own_far (own_far (own_far (own_far oq7 neq 0 (.int .i64 most)) neq 1 (.slice D1 R.length d1)) neq 5 (.slice E hn.length f)) neq 6 (.slice F qs.length m1)) hb0w3, own_baseQ (own_far (own_far (own_far (own_far oh7 neh 0 (.int .i64 most)) neh 1 (.slice D1 R.length d1)) neh 5 (.slice E hn.length f)) neh 6 (.slice F qs.length m1)) hb0w3, (own_far (own_far (own_far (own_far hown7 (fun k hk => (hltF k hk).1) 0 (.int .i64 most)) (fun k hk => (hltF k hk).1) 1 (.slice D1 R.length d1)) (fun k hk => (hltF k hk).1) 5 (.slice E hn.length f)) (fun k hk => (hltF k hk).1) 6 (.slice F qs.length m1)), fun p hp => by
      rw [← HQS.out] at hp
      rcases List.mem_append.1 hp with h | h
      · exact (own_far (own_far (own_far (own_far (HE7.out p h) (fun k hk => by have := HLE.out p h k hk; omega) 0 (.int .i64 most)) (fun k hk => by have := HLE.out p h k hk; omega) 1 (.slice D1 R.length d1)) (fun k hk => by have := HLE.out p h k hk; omega) 5 (.slice E hn.length f)) (fun k hk => by have := HLE.out p h k hk; omega) 6 (.slice F qs.length m1))
      · rw [List.mem_singleton.1 h]; exact own_baseQ (own_far (own_far (own_far (own_far oe7 nee 0 (.int .i64 most)) nee 1 (.slice D1 R.length d1)) nee 5 (.slice E hn.length f)) nee 6 (.slice F qs.length m1)) hb0w3⟩
    clear x7 z7 q7 q8 q9 q10 oq7 oh7 oe7 hown7 hb7 c0 c1 c2 c3 c4 c5 c6 f0 f1 f5 f6 r70 r71 r80 r81 r90 r91 r100 r101 HE7 hat7 hgrow7 x6A x6B hlt6
    obtain ⟨c0, c1, c2, c3, c4, c5, c6⟩ := x8.get7
    have z9 : Bx (((((((((((w7.setCell ⟨w.heap.size, 0, none⟩ (.int .i64 most)).setCell ⟨w.heap.size, 1, none⟩ (.slice D1 R.length d1)).setCell ⟨w.heap.size, 5, none⟩ (.slice E hn.length f)).setCell ⟨w.heap.size, 6, none⟩ (.slice F qs.length m1)).setCell ⟨w.heap.size + 1, 0, none⟩ (.int .i64 most)).setCell ⟨w.heap.size + 1, 1, none⟩ (.slice D1 R.length d1)).setCell ⟨w.heap.size + 1, 2, none⟩ (.int .i64 (b : Int))).setCell ⟨w.heap.size + 1, 3, none⟩ (.int .i64 ev)).setCell ⟨w.heap.size + 1, 4, none⟩ (.int .i64 nw)).setCell ⟨w.heap.size + 1, 5, none⟩ (.slice E hn.length f)).setCell ⟨w.heap.size + 1, 6, none⟩ (.slice F qs.length m1)) (w.heap.size + 1) [.int .i64 most, .slice D1 R.length d1, .int .i64 (b : Int), .int .i64 ev, .int .i64 nw, .slice E hn.length f, .slice F qs.length m1] := (((((((z8.set 0 (.int .i64 most)).set 1 (.slice D1 R.length d1)).set 2 (.int .i64 (b : Int))).set 3 (.int .i64 ev)).set 4 (.int .i64 nw)).set 5 (.slice E hn.length f)).set 6 (.slice F qs.length m1))
    have hb9 := Lib.hid (((((((hb8.setCell (p := ⟨w.heap.size + 1, 0, none⟩) (by omega : b0 ≤ w.heap.size + 1) (.int .i64 most)).setCell (p := ⟨w.heap.size + 1, 1, none⟩) (by omega : b0 ≤ w.heap.size + 1) (.slice D1 R.length d1)).setCell (p := ⟨w.heap.size + 1, 2, none⟩) (by omega : b0 ≤ w.heap.size + 1) (.int .i64 (b : Int))).setCell (p := ⟨w.heap.size + 1, 3, none⟩) (by omega : b0 ≤ w.heap.size + 1) (.int .i64 ev)).setCell (p := ⟨w.heap.size + 1, 4, none⟩) (by omega : b0 ≤ w.heap.size + 1) (.int .i64 nw)).setCell (p := ⟨w.heap.size + 1, 5, none⟩) (by omega : b0 ≤ w.heap.size + 1) (.slice E hn.length f)).setCell (p := ⟨w.heap.size + 1, 6, none⟩) (by omega : b0 ≤ w.heap.size + 1) (.slice F qs.length m1))
    have k9 := Lib.hid (⟨(own_far (own_far (own_far (own_far (own_far (own_far (own_far k8.q (fun k hk => by have := neqZ k hk; omega) 0 (.int .i64 most)) (fun k hk => by have := neqZ k hk; omega) 1 (.slice D1 R.length d1)) (fun k hk => by have := neqZ k hk; omega) 2 (.int .i64 (b : Int))) (fun k hk => by have := neqZ k hk; omega) 3 (.int .i64 ev)) (fun k hk => by have := neqZ k hk; omega) 4 (.int .i64 nw)) (fun k hk => by have := neqZ k hk; omega) 5 (.slice E hn.length f)) (fun k hk => by have := neqZ k hk; omega) 6 (.slice F qs.length m1)), (own_far (own_far (own_far (own_far (own_far (own_far (own_far k8.hd (fun k hk => by have := nehZ k hk; omega) 0 (.int .i64 most)) (fun k hk => by have := nehZ k hk; omega) 1 (.slice D1 R.length d1)) (fun k hk => by have := nehZ k hk; omega) 2 (.int .i64 (b : Int))) (fun k hk => by have := nehZ k hk; omega) 3 (.int .i64 ev)) (fun k hk => by have := nehZ k hk; omega) 4 (.int .i64 nw)) (fun k hk => by have := nehZ k hk; omega) 5 (.slice E hn.length f)) (fun k hk => by have := nehZ k hk; omega) 6 (.slice F qs.length m1)), (own_far (own_far (own_far (own_far (own_far (own_far (own_far k8.bk (fun k hk => (hltF k hk).2) 0 (.int .i64 most)) (fun k hk => (hltF k hk).2) 1 (.slice D1 R.length d1)) (fun k hk => (hltF k hk).2) 2 (.int .i64 (b : Int))) (fun k hk => (hltF k hk).2) 3 (.int .i64 ev)) (fun k hk => (hltF k hk).2) 4 (.int .i64 nw)) (fun k hk => (hltF k hk).2) 5 (.slice E hn.length f)) (fun k hk => (hltF k hk).2) 6 (.slice F qs.length m1)), fun p hp => by
      have hne : ∀ k, (Value.slice p.1 p.2.2.length p.2.1).ownBlock = some k → k ≠ w.heap.size + 1 := by
        rw [← HQS.out] at hp
        rcases List.mem_append.1 hp with h | h
        · exact fun k hk => by have := HLE.out p h k hk; omega
        · rw [List.mem_singleton.1 h]; exact fun k hk => by have := neeZ k hk; omega
      exact (own_far (own_far (own_far (own_far (own_far (own_far (own_far (k8.each p hp) hne 0 (.int .i64 most)) hne 1 (.slice D1 R.length d1)) hne 2 (.int .i64 (b : Int))) hne 3 (.int .i64 ev)) hne 4 (.int .i64 nw)) hne 5 (.slice E hn.length f)) hne 6 (.slice F qs.length m1))⟩ : OwnCk _ b0 R hn D1 E F d1 f m1 qs)
    have hg9 := Lib.hid (grown_far (grown_far (grown_far (grown_far (grown_far (grown_far (grown_far hg8 (Nat.le_succ _) 0 (.int .i64 most)) (Nat.le_succ _) 1 (.slice D1 R.length d1)) (Nat.le_succ _) 2 (.int .i64 (b : Int))) (Nat.le_succ _) 3 (.int .i64 ev)) (Nat.le_succ _) 4 (.int .i64 nw)) (Nat.le_succ _) 5 (.slice E hn.length f)) (Nat.le_succ _) 6 (.slice F qs.length m1))
    obtain ⟨y0, y1, y2, y3, y4, y5, y6⟩ := z8.get7
    have g0 := z8.f 0 (by simp)
    have g1 := z8.f 1 (by simp)
    have g2 := z8.f 2 (by simp)
    have g3 := z8.f 3 (by simp)
    have g4 := z8.f 4 (by simp)
    have g5 := z8.f 5 (by simp)
    have g6 := z8.f 6 (by simp)
    clear z8 k8 x8 hb8 hg8 hgw7
    go_wp2
    generalize (((((((((((w7.setCell ⟨w.heap.size, 0, none⟩ (.int .i64 most)).setCell ⟨w.heap.size, 1, none⟩ (.slice D1 R.length d1)).setCell ⟨w.heap.size, 5, none⟩ (.slice E hn.length f)).setCell ⟨w.heap.size, 6, none⟩ (.slice F qs.length m1)).setCell ⟨w.heap.size + 1, 0, none⟩ (.int .i64 most)).setCell ⟨w.heap.size + 1, 1, none⟩ (.slice D1 R.length d1)).setCell ⟨w.heap.size + 1, 2, none⟩ (.int .i64 (b : Int))).setCell ⟨w.heap.size + 1, 3, none⟩ (.int .i64 ev)).setCell ⟨w.heap.size + 1, 4, none⟩ (.int .i64 nw)).setCell ⟨w.heap.size + 1, 5, none⟩ (.slice E hn.length f)).setCell ⟨w.heap.size + 1, 6, none⟩ (.slice F qs.length m1)) = w9 at *
    obtain ⟨r0, r1, r2, r3, r4, r5, r6⟩ := z9.get7
    refine bodyPost_ret (v := .tuple #[.agg #[.int .i64 most, .slice D1 R.length d1, .int .i64 (b : Int), .int .i64 ev, .int .i64 nw, .slice E hn.length f, .slice F qs.length m1], .int .i64 0]) ?_ rfl ⟨D1, d1, E, f, F, m1, P5, p5, by rw [← HQS.out], by rw [HQS.out]; exact k9.out, hb9.out, hg9.out⟩
    rw [results_cell_tmp rfl]
    go_simp
end Go.Proofs.YtjcockcilkiggaaGreat
