/- The reference: OwnClerk copies a clerk into memory of the call's own. It writes nothing that was there. -/
import Derived.Test.YtjcockcilkiggaaGreatJ17
import Derived.Test.YtjcockcilkiggaaGreatJ22
import Derived.Test.YtjcockcilkiggaaGreatJ09
import Derived.Test.YtjcockcilkiggaaGreatJ24
import Derived.Lib.SliceRun
namespace Go.Proofs.YtjcockcilkiggaaGreat
set_option maxRecDepth 100000
open Go.RowKit

/-- A clerk's lists in rows of the call's own. -/
structure OwnCk (W : World) (b : Nat) (l : List Ak) (hs : List Hd) (D E F : Option Addr) (d f m : Nat) (qs : List Bp) : Prop where
  q : W.ownsRow b 31 4 (.slice D l.length d) l.length (qcells l)
  hd : W.ownsRow b 45 4 (.slice E hs.length f) hs.length (hcells hs)
  bk : W.ownsRow b 39 1 (.slice F qs.length m) qs.length (bkcells qs)
  each : ∀ p ∈ qs, W.ownsRow b 51 2 (.slice p.1 p.2.2.length p.2.1) p.2.2.length (encells p.2.2)
theorem OwnCk.below {W W' : World} {b : Nat} {l : List Ak} {hs : List Hd} {D E F : Option Addr} {d f h : Nat} {qs : List Bp} (k : OwnCk W b l hs D E F d f h qs) (hb : Below W.heap.size W W') : OwnCk W' b l hs D E F d f h qs :=
  ⟨own_belowN k.q hb, own_belowN k.hd hb, own_belowN k.bk hb, fun p hp => own_belowN (k.each p hp) hb⟩
theorem OwnCk.set {W : World} {b g : Nat} {l : List Ak} {hs : List Hd} {D E F : Option Addr} {d f h : Nat} {qs : List Bp} (k : OwnCk W b l hs D E F d f h qs) (hg : g < b) (j : Nat) (u : Value) : OwnCk (W.setCell ⟨g, j, none⟩ u) b l hs D E F d f h qs :=
  ⟨own_set k.q hg j u, own_set k.hd hg j u, own_set k.bk hg j u, fun p hp => own_set (k.each p hp) hg j u⟩
theorem OwnCk.mono {W : World} {b b' : Nat} {l : List Ak} {hs : List Hd} {D E F : Option Addr} {d f h : Nat} {qs : List Bp} (k : OwnCk W b l hs D E F d f h qs) (hb : b' ≤ b) : OwnCk W b' l hs D E F d f h qs :=
  ⟨own_baseQ k.q hb, own_baseQ k.hd hb, own_baseQ k.bk hb, fun p hp => own_baseQ (k.each p hp) hb⟩
theorem OwnCk.books {W : World} {b : Nat} {l : List Ak} {hs : List Hd} {D E F : Option Addr} {d f h : Nat} {qs : List Bp} (k : OwnCk W b l hs D E F d f h qs) : Books W F qs := ⟨Row.ownN k.bk, fun p hp => Row.ownN (k.each p hp)⟩
/-- A row is kept where no row is written. -/
theorem own_keep0 {W W' : World} {base size n : Nat} {e : TypeId} {v : Value} {xs : List Value} (h : W.ownsRow base e size v n xs) (hg : W.grownBy W' none) : W'.ownsRow base e size v n xs :=
  h.kept hg (by cases v.ownBlock with | none => exact .inl rfl | some k => exact .inr (by simp))
def OwnGivesC (most ba ev nw : Int) (l : List Ak) (hs : List Hd) (bs : List (List Ent)) (w : World) (x : Ending) (w' : World) : Prop :=
  ∃ D d E f F h qs, x = .returned (.agg #[.int .i64 most, .slice D l.length d, .int .i64 ba, .int .i64 ev, .int .i64 nw, .slice E hs.length f, .slice F qs.length h]) ∧ bks qs = bs ∧ OwnCk w' w.heap.size l hs D E F d f h qs ∧ Below w.heap.size w w'

set_option maxHeartbeats 4000000 in
theorem refOwnClerk (most ba ev nw : Int) (l : List Ak) (hs : List Hd) (ps : List Bp) (A H B : Option Addr) (c d e : Nat) (w : World) (hl : l.length ≤ 1000) (hh : hs.length ≤ 1000) (hp : ps.length ≤ 1000) (hpb : ∀ p ∈ ps, p.2.2.length ≤ 1000)
    (hA : Row w A (qcells l)) (hH : Row w H (hcells hs)) (hB : Books w B ps) :
    Calls Tryz.prog 40 #[.agg #[.int .i64 most, .slice A l.length c, .int .i64 ba, .int .i64 ev, .int .i64 nw, .slice H hs.length d, .slice B ps.length e]] w (OwnGivesC most ba ev nw l hs (bks ps) w) := by
  have x0 := (Bx.new w _ rfl _ [.int .i64 most, .slice A l.length c, .int .i64 ba, .int .i64 ev, .int .i64 nw, .slice H hs.length d, .slice B ps.length e] 28 rfl).alloc (.cells #[.int .i64 0, .slice none 0 0, .int .i64 0, .int .i64 0, .int .i64 0, .slice none 0 0, .slice none 0 0] 28)
  have z0 := Bx.new (w.alloc (.cells #[.int .i64 most, .slice A l.length c, .int .i64 ba, .int .i64 ev, .int .i64 nw, .slice H hs.length d, .slice B ps.length e] 28)) (w.heap.size + 1) (by simp) _ [.int .i64 0, .slice none 0 0, .int .i64 0, .int .i64 0, .int .i64 0, .slice none 0 0, .slice none 0 0] 28 rfl
  have hb0 : Below w.heap.size w ((w.alloc (.cells #[.int .i64 most, .slice A l.length c, .int .i64 ba, .int .i64 ev, .int .i64 nw, .slice H hs.length d, .slice B ps.length e] 28)).alloc (.cells #[.int .i64 0, .slice none 0 0, .int .i64 0, .int .i64 0, .int .i64 0, .slice none 0 0, .slice none 0 0] 28)) := ((Below.refl _ _).alloc (Nat.le_refl _) _).alloc (by simp) _
  have hs0 : w.heap.size + 2 ≤ ((w.alloc (.cells #[.int .i64 most, .slice A l.length c, .int .i64 ba, .int .i64 ev, .int .i64 nw, .slice H hs.length d, .slice B ps.length e] 28)).alloc (.cells #[.int .i64 0, .slice none 0 0, .int .i64 0, .int .i64 0, .int .i64 0, .slice none 0 0, .slice none 0 0] 28)).heap.size := by simp
  obtain ⟨a0, a1, a2, a3, a4, a5, a6⟩ := x0.get7
  have HPB := Lib.hid hpb
  have hA0 := hA.below hb0
  have hH0 := fun W (hb : Below w.heap.size w W) => hH.below hb
  clear hpb
  go_enter Tryz.func40, Tryz.ntmps40
  go_wp2_with (at_builtin; first
    | (refine app_asks0 _ rfl _ _ rfl (w.heap.size + 2) (.slice none 0 0) [] rfl (own_nilQ _ _) A c l rfl hA0 (by simp; omega) hs0 ?_; intro v1 w1 hown1 hg1; rw [List.nil_append] at hown1; have hb1 := hb0.grown hg1 (by omega) (fun k hk => by simp [Value.ownBlock] at hk); have x1 := x0.kept hg1 (by simp [Value.ownBlock]); have z1 := z0.kept hg1 (by simp [Value.ownBlock]); obtain ⟨D, d1, rfl⟩ := own_shape hown1; have fz1 := x1.f 1 (by simp); have b1 := x1.get7.2.1; have x2 := x1.set 1 (.slice D l.length d1); have z2 := z1.far (h := w.heap.size) (by omega) 1 (.slice D l.length d1); have hb2 := hb1.setCell (p := ⟨w.heap.size, 1, none⟩) (Nat.le_refl _) (.slice D l.length d1); have hq2 := own_set hown1 (by omega : w.heap.size < w.heap.size + 2) 1 (.slice D l.length d1); have b5 := x2.get7.2.2.2.2.2.1; have hH2 := hH0 _ hb2; have hs2 := z2.lt)
    | (refine app_heads0 _ rfl _ _ rfl (w.heap.size + 2) (.slice none 0 0) [] rfl (own_nilAny _ _ _ _) H d hs rfl hH2 (by simp; omega) hs2 ?_; intro v3 w3 hown3 hg3; rw [List.nil_append] at hown3; have hb3 := hb2.grown hg3 (by omega) (fun k hk => by simp [Value.ownBlock] at hk); have x3 := x2.kept hg3 (by simp [Value.ownBlock]); have z3 := z2.kept hg3 (by simp [Value.ownBlock]); have hq3 := own_keep0 hq2 hg3; obtain ⟨E, f1, rfl⟩ := own_shape hown3; have fz5 := x3.f 5 (by simp); have c5 := x3.get7.2.2.2.2.2.1; have x4 := x3.set 5 (.slice E hs.length f1); have z4 := z3.far (h := w.heap.size) (by omega) 5 (.slice E hs.length f1); have hb4 := hb3.setCell (p := ⟨w.heap.size, 5, none⟩) (Nat.le_refl _) (.slice E hs.length f1); have hq4 := own_set hq3 (by omega : w.heap.size < w.heap.size + 2) 5 (.slice E hs.length f1); have hh4 := own_set hown3 (by omega : w.heap.size < w.heap.size + 2) 5 (.slice E hs.length f1); have b6 := x4.get7.2.2.2.2.2.2))
  have x5 : Bx _ w.heap.size [.int .i64 most, .slice D l.length d1, .int .i64 ba, .int .i64 ev, .int .i64 nw, .slice E hs.length f1, .slice B ps.length e] := x4
  have hB4 := hB.below hb4
  clear a0 a1 a2 a3 a4 a5 a6 x0 z0 hb0 hs0 hA0 hH0 hA hH hown1 hg1 hb1 x1 z1 fz1 b1 x2 z2 hb2 hq2 b5 hH2 hs2 hown3 hg3 hb3 x3 z3 hq3 fz5 b6 x4 hB c5
  generalize w3.setCell ⟨w.heap.size, 5, none⟩ (.slice E hs.length f1) = v4 at *
  go_loopw [3, 19] (fun vb i wr => ∃ (k : Nat) (qs : List Bp), k ≤ ps.length ∧ i = .int .i64 k ∧ Hid (bks qs = (bks ps).take k) ∧ qs.length ≤ k ∧ wr.ownsRow (w.heap.size + 2) 31 4 (.slice D l.length d1) l.length (qcells l) ∧ wr.ownsRow (w.heap.size + 2) 45 4 (.slice E hs.length f1) hs.length (hcells hs)
    ∧ wr.ownsRow v4.heap.size 39 1 vb qs.length (bkcells qs) ∧ Hid (∀ p ∈ qs, wr.ownsRow v4.heap.size 51 2 (.slice p.1 p.2.2.length p.2.1) p.2.2.length (encells p.2.2)) ∧ Below v4.heap.size v4 wr) (fun _ i _ => ps.length - (intOf i).toNat)
  case atStart => exact ⟨0, [], Nat.zero_le _, rfl, by show _ = _; simp [bks], Nat.le_refl _, hq4, hh4, own_nilAny _ _ _ _, fun p hp => by simp at hp, Below.refl _ _⟩
  case round =>
    obtain ⟨k, qs, hk, rfl, HQ, hqk, oq, oh, ob, HO, hbl⟩ := hrel
    have hz := (z4.below hbl).lt
    have hsz := hbl.size
    by_cases hlt : k < ps.length
    · obtain ⟨gB, oB, rfl, jB, rB⟩ := (hB4.below hbl).get k hlt
      have hpk := HPB.out _ (List.getElem_mem hlt)
      have HQ2 : ∀ u : Bp, u.2.2 = ps[k].2.2 → Hid (bks (qs ++ [u]) = (bks ps).take (k + 1)) := fun u hu => by
        show _ = _
        rw [bks_append, HQ.out, List.take_succ_eq_append_getElem (by rw [bks_length]; exact hlt), bks_get ps k hlt, ← hu]
        rfl
      have i0 : (0 : Int) ≤ (k : Int) := by omega
      have i1 : (k : Int) < (ps.length : Int) := by omega
      generalize ps[k].2.2 = bk at *
      generalize ps[k].1 = P1 at *
      generalize ps[k].2.1 = P2 at *
      have hbase : w.heap.size + 2 ≤ wr.heap.size := by omega
      obtain ⟨F0, m0, rfl⟩ := own_shape ob
      clear HQ hlt
      go_wp2_with (at_builtin; first
        | (refine app_ents0 _ rfl _ _ rfl v4.heap.size (.slice none 0 0) [] rfl (own_nilAny _ _ _ _) P1 P2 bk rfl rB (by simp; omega) hsz ?_; intro v1 w1 hown1 hg1; rw [List.nil_append] at hown1; have hb1 := (Below.refl wr.heap.size wr).grown hg1 (Nat.le_refl _) (fun k hk => by simp [Value.ownBlock] at hk); have hs1 := hb1.size; obtain ⟨P, p1, rfl⟩ := own_shape hown1; have ob1 := own_belowN ob hb1)
        | (refine app_books0 _ rfl _ _ rfl v4.heap.size _ qs rfl (ob1.alloc _) (some ⟨w1.heap.size, 0, none⟩) 1 [(P, p1, bk)] rfl (Row.new _ _ _ _ _ rfl rfl) (by simp; omega) (by simp; omega) ?_; intro v2 w2 hown2 hg2))
      have hbw : Below wr.heap.size wr (w1.alloc (.cells #[.slice P bk.length p1] 39)) := hb1.alloc hb1.size _
      have ob2 := own_belowN ob hbw
      have oq2 := own_other (own_belowN oq hbw) ob2 (by decide) hg2
      have oh2 := own_other (own_belowN oh hbw) ob2 (by decide) hg2
      have oe2 := own_other (hown1.alloc (.cells #[.slice P bk.length p1] 39)) ob2 (by decide) hg2
      have HO2 : Hid (∀ p ∈ qs ++ [(P, p1, bk)], w2.ownsRow v4.heap.size 51 2 (.slice p.1 p.2.2.length p.2.1) p.2.2.length (encells p.2.2)) := fun p hp => by
        rcases List.mem_append.1 hp with h | h
        · exact own_other (own_belowN (HO.out p h) hbw) ob2 (by decide) hg2
        · rw [List.mem_singleton.1 h]; exact oe2
      have hb3 : Below v4.heap.size v4 w2 := (below_chain hbl hbw).grown hg2 (Nat.le_trans hsz (hbw.size)) (fun j hj => (ob2.lt j hj).1)
      go_roundw
      case rel => exact ⟨k + 1, qs ++ [(P, p1, bk)], by omega, by go_num, HQ2 _ rfl, by simp; omega, oq2, oh2, hown2, HO2, hb3⟩
      case measure => simp [intOf]; omega
    · have HF : Hid (bks qs = bks ps) := by show _ = _; rw [HQ.out, List.take_of_length_le (by rw [bks_length]; omega)]
      have x6 := x5.below hbl
      have z6 := z4.below hbl
      have hb6 := below_chain hb4 hbl
      obtain ⟨F0, m0, rfl⟩ := own_shape ob
      have hzl := z4.lt
      have k0 : OwnCk wr (w.heap.size + 2) l hs D E F0 d1 f1 m0 qs := ⟨oq, oh, own_baseQ ob (by omega), fun p hp => own_baseQ (HO.out p hp) (by omega)⟩
      have k1 := k0.set (g := w.heap.size) (by omega) 6 (.slice F0 qs.length m0)
      have x7 : Bx (wr.setCell ⟨w.heap.size, 6, none⟩ (.slice F0 qs.length m0)) w.heap.size [.int .i64 most, .slice D l.length d1, .int .i64 ba, .int .i64 ev, .int .i64 nw, .slice E hs.length f1, .slice F0 qs.length m0] := x6.set 6 (.slice F0 qs.length m0)
      have z7 := z6.far (h := w.heap.size) (by omega) 6 (.slice F0 qs.length m0)
      have hb7 := hb6.setCell (p := ⟨w.heap.size, 6, none⟩) (Nat.le_refl _) (.slice F0 qs.length m0)
      have z8 : Bx ((((((((wr.setCell ⟨w.heap.size, 6, none⟩ (.slice F0 qs.length m0)).setCell ⟨w.heap.size + 1, 0, none⟩ (.int .i64 most)).setCell ⟨w.heap.size + 1, 1, none⟩ (.slice D l.length d1)).setCell ⟨w.heap.size + 1, 2, none⟩ (.int .i64 ba)).setCell ⟨w.heap.size + 1, 3, none⟩ (.int .i64 ev)).setCell ⟨w.heap.size + 1, 4, none⟩ (.int .i64 nw)).setCell ⟨w.heap.size + 1, 5, none⟩ (.slice E hs.length f1)).setCell ⟨w.heap.size + 1, 6, none⟩ (.slice F0 qs.length m0)) (w.heap.size + 1) [.int .i64 most, .slice D l.length d1, .int .i64 ba, .int .i64 ev, .int .i64 nw, .slice E hs.length f1, .slice F0 qs.length m0] := (((((((z7.set 0 (.int .i64 most)).set 1 (.slice D l.length d1)).set 2 (.int .i64 ba)).set 3 (.int .i64 ev)).set 4 (.int .i64 nw)).set 5 (.slice E hs.length f1)).set 6 (.slice F0 qs.length m0))
      have k2 := Lib.hid ((((((((k1.set (g := w.heap.size + 1) (by omega) 0 (.int .i64 most)).set (g := w.heap.size + 1) (by omega) 1 (.slice D l.length d1)).set (g := w.heap.size + 1) (by omega) 2 (.int .i64 ba)).set (g := w.heap.size + 1) (by omega) 3 (.int .i64 ev)).set (g := w.heap.size + 1) (by omega) 4 (.int .i64 nw)).set (g := w.heap.size + 1) (by omega) 5 (.slice E hs.length f1)).set (g := w.heap.size + 1) (by omega) 6 (.slice F0 qs.length m0)).mono (by omega : w.heap.size ≤ w.heap.size + 2))
      have hb8 := Lib.hid (((((((hb7.setCell (p := ⟨w.heap.size + 1, 0, none⟩) (by omega : w.heap.size ≤ w.heap.size + 1) (.int .i64 most)).setCell (p := ⟨w.heap.size + 1, 1, none⟩) (by omega : w.heap.size ≤ w.heap.size + 1) (.slice D l.length d1)).setCell (p := ⟨w.heap.size + 1, 2, none⟩) (by omega : w.heap.size ≤ w.heap.size + 1) (.int .i64 ba)).setCell (p := ⟨w.heap.size + 1, 3, none⟩) (by omega : w.heap.size ≤ w.heap.size + 1) (.int .i64 ev)).setCell (p := ⟨w.heap.size + 1, 4, none⟩) (by omega : w.heap.size ≤ w.heap.size + 1) (.int .i64 nw)).setCell (p := ⟨w.heap.size + 1, 5, none⟩) (by omega : w.heap.size ≤ w.heap.size + 1) (.slice E hs.length f1)).setCell (p := ⟨w.heap.size + 1, 6, none⟩) (by omega : w.heap.size ≤ w.heap.size + 1) (.slice F0 qs.length m0))
      have c6 := x6.get7.2.2.2.2.2.2
      have fz6 := x6.f 6 (by simp)
      obtain ⟨a0, a1, a2, a3, a4, a5, a6⟩ := x7.get7
      obtain ⟨b0, b1, b2, b3, b4, b5, b6⟩ := z7.get7
      have g0 := z7.f 0 (by simp)
      have g1 := z7.f 1 (by simp)
      have g2 := z7.f 2 (by simp)
      have g3 := z7.f 3 (by simp)
      have g4 := z7.f 4 (by simp)
      have g5 := z7.f 5 (by simp)
      have g6 := z7.f 6 (by simp)
      clear k0 k1 x7 z7 hb7 x6 z6 hb6 oq oh ob HO x5 z4 hq4 hh4 hB4 hb4 hbl HQ HPB
      go_wp2
      generalize ((((((((wr.setCell ⟨w.heap.size, 6, none⟩ (.slice F0 qs.length m0)).setCell ⟨w.heap.size + 1, 0, none⟩ (.int .i64 most)).setCell ⟨w.heap.size + 1, 1, none⟩ (.slice D l.length d1)).setCell ⟨w.heap.size + 1, 2, none⟩ (.int .i64 ba)).setCell ⟨w.heap.size + 1, 3, none⟩ (.int .i64 ev)).setCell ⟨w.heap.size + 1, 4, none⟩ (.int .i64 nw)).setCell ⟨w.heap.size + 1, 5, none⟩ (.slice E hs.length f1)).setCell ⟨w.heap.size + 1, 6, none⟩ (.slice F0 qs.length m0)) = w9 at *
      obtain ⟨r0, r1, r2, r3, r4, r5, r6⟩ := z8.get7
      refine bodyPost_ret (v := .agg #[.int .i64 most, .slice D l.length d1, .int .i64 ba, .int .i64 ev, .int .i64 nw, .slice E hs.length f1, .slice F0 qs.length m0]) ?_ rfl ⟨D, d1, E, f1, F0, m0, qs, rfl, HF.out, k2.out, hb8.out⟩
      rw [results_cellOne rfl]
      go_simp
end Go.Proofs.YtjcockcilkiggaaGreat
/- slices.Clone at entries and at hashes returns a new slice with the same elements. It writes nothing that was there. -/
namespace Go.Proofs.YtjcockcilkiggaaGreat
set_option maxRecDepth 100000
open Go.RowKit

/-- A list of entries of the call's own, and what lies behind it. -/
def EntsGivesS (T : List Ent) (w : World) (e : Ending) (w' : World) : Prop := ∃ D d, e = .returned (.slice D T.length d) ∧ ownsS w' w.heap.size (.slice D T.length d) T ∧ Below w.heap.size w w'
set_option maxHeartbeats 800000 in
theorem cloneEntsS (A : Option Addr) (c : Nat) (es : List Ent) (w : World) (hm : es.length * 32 ≤ 140737488351232) (hA : Row w A (encells es)) :
    Calls Tryz.prog 22 #[.slice A es.length c] w (EntsGivesS es w) := by
  have q : ∀ (w : World) (a : Option Addr) (n c n' c' : Nat), (binOp .eql 39 (.slice a n c) (.slice none n' c')).run Tryz.prog w = .ok (.bool a.isNone) w := fun w a n c n' c' => Lib.run_eql_slice_nil w _ _ a n c n' c' Tryz.underlying39
  cases A with
  | none =>
    have h0 : es.length = 0 := by
      rcases Nat.eq_zero_or_pos es.length with h | h
      · exact h
      · obtain ⟨g, off, e, _⟩ := hA (by rw [encells_length]; omega)
        cases e
    obtain rfl : es = [] := List.eq_nil_of_length_eq_zero h0
    go_enter Tryz.func22, Tryz.ntmps22
    go_wp2
    go_ret
    exact ⟨none, 0, rfl, ownsS.nil _ _, Below.refl _ _⟩
  | some a =>
    have hown : ownsS (w.alloc (.cells #[] 51)) w.heap.size (.slice (some ⟨w.heap.size, 0, none⟩) 0 0) [] := .inr ⟨w.heap.size, 0, rfl, Nat.le_refl _, Nat.zero_le _, heap_alloc_new w _⟩
    have hA1 := hA.alloc (.cells #[] 51)
    have hb0 : Below w.heap.size w (w.alloc (.cells #[] 51)) := (Below.refl _ w).alloc (Nat.le_refl _) _
    obtain ⟨v1, w1, hrun, hown1, hgrow1, -⟩ := run_appS _ 39 w.heap.size _ [] hown (some a) c es hA1 (by simp; omega) hb0.size
    have hb1 := hb0.grown hgrow1 hb0.size (fun k hk => (hown.lt k hk).1)
    rw [List.nil_append] at hown1
    clear hA hA1
    go_enter Tryz.func22, Tryz.ntmps22
    go_wp2_with (at_builtin; refine app_run _ rfl _ _ _ _ rfl _ _ _ _ rfl rfl hrun ?_)
    obtain ⟨D, d, rfl⟩ := hown1.shape
    go_ret
    exact ⟨D, d, rfl, hown1, hb1⟩
theorem cloneEnts (A : Option Addr) (c : Nat) (es : List Ent) (w : World) (hm : es.length * 32 ≤ 140737488351232) (hA : Row w A (encells es)) :
    Calls Tryz.prog 22 #[.slice A es.length c] w (EntsGives es w) := by
  refine (cloneEntsS A c es w hm hA).mono ?_
  rintro e w' ⟨D, d, h1, h2, h3⟩
  exact ⟨D, d, h1, Row.ownE h2.row, h3⟩
end Go.Proofs.YtjcockcilkiggaaGreat
