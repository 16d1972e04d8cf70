/- Package clerk: copied makes a clerk in memory of the call's own. It writes nothing that was there. -/
import Derived.Test.YtjcockcilkiggaaGreatJ28
import Derived.Test.YtjcockcilkiggaaGreatJ30
import Derived.Laws.OwnMore
import Derived.Deep.RegionHeld3
import Derived.Test.YtjcockcilkiggaaGreatJ17
import Derived.Test.YtjcockcilkiggaaGreatJ08
namespace Go.Proofs.YtjcockcilkiggaaGreat
set_option maxRecDepth 100000
open Go.RowKit

/-- A list of books in a row of the call's own. -/
def BksGives (ps : List Bp) (w : World) (x : Ending) (w' : World) : Prop := ∃ D d, x = .returned (.slice D ps.length d) ∧ w'.ownsRow w.heap.size 39 1 (.slice D ps.length d) ps.length (bkcells ps) ∧ Below w.heap.size w w'
theorem cloneBooks (B : Option Addr) (c : Nat) (ps : List Bp) (w : World) (h0 : 0 < ps.length) (hm : ps.length ≤ 1000) (hB : Row w B (bkcells ps)) :
    Calls Tryz.prog 49 #[.slice B ps.length c] w (BksGives ps w) := by
  have q : ∀ (w : World) (a : Option Addr) (n c n' c' : Nat), (binOp .eql 26 (.slice a n c) (.slice none n' c')).run Tryz.prog w = .ok (.bool a.isNone) w := fun w a n c n' c' => Lib.run_eql_slice_nil w _ _ a n c n' c' Tryz.underlying26
  obtain ⟨g, off, rfl, _⟩ := hB (by rw [bkcells_length]; omega)
  have hown := World.ownsRow_made (e := 39) (size := 1) w #[] 0 (Nat.le_refl w.heap.size) (Nat.zero_le _) rfl
  have hB1 := hB.alloc (.cells #[] 39)
  have hb0 : Below w.heap.size w (w.alloc (.cells #[] 39)) := (Below.refl _ w).alloc (Nat.le_refl _) _
  obtain ⟨v1, w1, hrun, hown1, hgrow1⟩ := run_appB0 _ 26 w.heap.size _ [] hown (some ⟨g, off, none⟩) c ps hB1 (by simp; omega) hb0.size
  have hb1 := hb0.grown hgrow1 hb0.size (fun k hk => (hown.lt k hk).1)
  rw [List.nil_append] at hown1
  clear hB hB1
  go_enter Tryz.func49, Tryz.ntmps49
  go_wp2_with (at_builtin; refine app_run _ rfl _ _ _ _ rfl _ _ _ _ rfl rfl hrun ?_)
  obtain ⟨D, d, rfl⟩ := own_shape hown1
  go_ret
  exact ⟨D, d, rfl, hown1, hb1⟩
theorem bks_take (ps : List Bp) (k : Nat) : bks (ps.take k) = (bks ps).take k := by simp [bks]
theorem bkcells_set (qs rs : List Bp) (p u : Bp) : (bkcells (qs ++ p :: rs)).set qs.length (.slice u.1 u.2.2.length u.2.1) = bkcells (qs ++ [u] ++ rs) := by
  have : qs.length = (bkcells qs).length := (bkcells_length qs).symm
  rw [bkcells_append, this, List.set_append_right _ _ (Nat.le_refl _), Nat.sub_self, List.append_assoc, bkcells_append]
  rfl

theorem get_mid (qs ps : List Bp) (k : Nat) (h : qs.length = k) (hk : k < ps.length) (h' : k < (qs ++ ps.drop k).length) : (qs ++ ps.drop k)[k]'h' = ps[k] := by
  subst h
  rw [List.getElem_append_right (Nat.le_refl _)]
  simp
theorem bkcells_put (qs ps : List Bp) (k : Nat) (h : qs.length = k) (hk : k < ps.length) (u : Bp) : (bkcells (qs ++ ps.drop k)).set k (.slice u.1 u.2.2.length u.2.1) = bkcells (qs ++ [u] ++ ps.drop (k + 1)) := by
  subst h
  rw [List.drop_eq_getElem_cons hk, bkcells_set]

set_option maxHeartbeats 4000000 in
theorem clerkCopied (most ba ev nw : Int) (l : List Ak) (hs : List Hd) (ps : List Bp) (A H B : Option Addr) (c d e : Nat) (w : World) (hl : l.length ≤ 1000) (hh0 : 0 < hs.length) (hh : hs.length ≤ 1000) (hp0 : 0 < ps.length) (hp : ps.length ≤ 1000) (hpb : ∀ p ∈ ps, p.2.2.length ≤ 1000)
    (hA : Row w A (qcells l)) (hH : Row w H (hcells hs)) (hB : Books w B ps) :
    Calls Tryz.prog 19 #[.agg #[.int .i64 most, .slice A l.length c, .int .i64 ba, .int .i64 ev, .int .i64 nw, .slice H hs.length d, .slice B ps.length e]] w (OwnGivesC most ba ev nw l hs (bks ps) w) := by
  have hb0 : Below w.heap.size w ((w.alloc (.cells #[.int .i64 most, .slice A l.length c, .int .i64 ba, .int .i64 ev, .int .i64 nw, .slice H hs.length d, .slice B ps.length e] 28)).alloc (.cells #[.int .i64 0, .slice none 0 0, .int .i64 0, .int .i64 0, .int .i64 0, .slice none 0 0, .slice none 0 0] 28)) := ((Below.refl _ _).alloc (Nat.le_refl _) _).alloc (by simp) _
  have x0 := (Bx.new w _ rfl _ [.int .i64 most, .slice A l.length c, .int .i64 ba, .int .i64 ev, .int .i64 nw, .slice H hs.length d, .slice B ps.length e] 28 rfl).alloc (.cells #[.int .i64 0, .slice none 0 0, .int .i64 0, .int .i64 0, .int .i64 0, .slice none 0 0, .slice none 0 0] 28)
  have z0 := Bx.new (w.alloc (.cells #[.int .i64 most, .slice A l.length c, .int .i64 ba, .int .i64 ev, .int .i64 nw, .slice H hs.length d, .slice B ps.length e] 28)) (w.heap.size + 1) (by simp) _ [.int .i64 0, .slice none 0 0, .int .i64 0, .int .i64 0, .int .i64 0, .slice none 0 0, .slice none 0 0] 28 rfl
  have hs0 : ((w.alloc (.cells #[.int .i64 most, .slice A l.length c, .int .i64 ba, .int .i64 ev, .int .i64 nw, .slice H hs.length d, .slice B ps.length e] 28)).alloc (.cells #[.int .i64 0, .slice none 0 0, .int .i64 0, .int .i64 0, .int .i64 0, .slice none 0 0, .slice none 0 0] 28)).heap.size = w.heap.size + 2 := by simp
  have a1 := x0.get7.2.1
  have HPB := Lib.hid hpb
  have hCq := fun (w : World) h => Lib.hid (cloneAsks0 A c l w (by omega) h)
  have hCh := fun (w : World) h => Lib.hid (cloneHeads H d hs w hh0 (by omega) h)
  have hCb := fun (w : World) h => Lib.hid (cloneBooks B e ps w hp0 hp h)
  have hA0 := hA.below hb0
  clear hpb hA
  go_enter Tryz.func19, Tryz.ntmps19
  go_wp2_with fail
  refine (hCq _ hA0).out.mono ?_
  rintro xx w1 ⟨D, d1, rfl, hown1, hb1⟩
  rw [hs0] at hown1
  have x1 := x0.below hb1
  have z1 := z0.below hb1
  have hb01 := below_chain hb0 hb1
  have b1 := x1.get7.2.1
  have fz1 := x1.f 1 (by simp)
  have x2 : Bx (w1.setCell ⟨w.heap.size, 1, none⟩ (.slice D l.length d1)) w.heap.size [.int .i64 most, .slice D l.length d1, .int .i64 ba, .int .i64 ev, .int .i64 nw, .slice H hs.length d, .slice B ps.length e] := x1.set 1 (.slice D l.length d1)
  have z2 := z1.far (h := w.heap.size) (by omega) 1 (.slice D l.length d1)
  have hb02 := hb01.setCell (p := ⟨w.heap.size, 1, none⟩) (Nat.le_refl _) (.slice D l.length d1)
  have hq2 := own_set hown1 (by omega : w.heap.size < w.heap.size + 2) 1 (.slice D l.length d1)
  have b5 := x2.get7.2.2.2.2.2.1
  have hH2 := hH.below hb02
  have hz2 := z2.lt
  clear a1 x0 z0 hb0 hA0 hown1 hb1 x1 z1 hb01 hCq hH hs0
  go_wp2_with fail
  refine (hCh _ hH2).out.mono ?_
  rintro xx w3 ⟨E, f1, rfl, hown3, hb3⟩
  have x3 := x2.below hb3
  have z3 := z2.below hb3
  have hb03 := below_chain hb02 hb3
  have hq3 := own_belowN hq2 hb3
  have hh3 := own_base hown3 (by omega : w.heap.size + 2 ≤ (w1.setCell ⟨w.heap.size, 1, none⟩ (.slice D l.length d1)).heap.size)
  have c5 := x3.get7.2.2.2.2.2.1
  have fz5 := x3.f 5 (by simp)
  have x4 : Bx (w3.setCell ⟨w.heap.size, 5, none⟩ (.slice E hs.length f1)) w.heap.size [.int .i64 most, .slice D l.length d1, .int .i64 ba, .int .i64 ev, .int .i64 nw, .slice E hs.length f1, .slice B ps.length e] := x3.set 5 (.slice E hs.length f1)
  have z4 := z3.far (h := w.heap.size) (by omega) 5 (.slice E hs.length f1)
  have hb04 := hb03.setCell (p := ⟨w.heap.size, 5, none⟩) (Nat.le_refl _) (.slice E hs.length f1)
  have hq4 := own_set hq3 (by omega : w.heap.size < w.heap.size + 2) 5 (.slice E hs.length f1)
  have hh4 := own_set hh3 (by omega : w.heap.size < w.heap.size + 2) 5 (.slice E hs.length f1)
  have b6 := x4.get7.2.2.2.2.2.2
  have hB4 := hB.below hb04
  have hz4 := z4.lt
  clear b1 fz1 x2 z2 hb02 hq2 b5 hH2 hown3 hb3 x3 z3 hb03 hq3 hh3 hCh
  go_wp2_with fail
  refine (hCb _ hB4.row).out.mono ?_
  rintro xx w5 ⟨F0, m1, rfl, hown5, hb5⟩
  have x5 := x4.below hb5
  have z5 := z4.below hb5
  have hb05 := below_chain hb04 hb5
  have hq5 := own_belowN hq4 hb5
  have hh5 := own_belowN hh4 hb5
  have ob5 := own_base hown5 (by omega : w.heap.size + 2 ≤ (w3.setCell ⟨w.heap.size, 5, none⟩ (.slice E hs.length f1)).heap.size)
  have c6 := x5.get7.2.2.2.2.2.2
  have fz6 := x5.f 6 (by simp)
  have x6 : Bx (w5.setCell ⟨w.heap.size, 6, none⟩ (.slice F0 ps.length m1)) w.heap.size [.int .i64 most, .slice D l.length d1, .int .i64 ba, .int .i64 ev, .int .i64 nw, .slice E hs.length f1, .slice F0 ps.length m1] := x5.set 6 (.slice F0 ps.length m1)
  have z6 := z5.far (h := w.heap.size) (by omega) 6 (.slice F0 ps.length m1)
  have hb06 := hb05.setCell (p := ⟨w.heap.size, 6, none⟩) (Nat.le_refl _) (.slice F0 ps.length m1)
  have hq6 := own_set hq5 (by omega : w.heap.size < w.heap.size + 2) 6 (.slice F0 ps.length m1)
  have hh6 := own_set hh5 (by omega : w.heap.size < w.heap.size + 2) 6 (.slice F0 ps.length m1)
  have ob6 := own_set ob5 (by omega : w.heap.size < w.heap.size + 2) 6 (.slice F0 ps.length m1)
  have d6 := x6.get7.2.2.2.2.2.2
  obtain ⟨gF, rfl⟩ : ∃ gF, F0 = some ⟨gF, 0, none⟩ := by
    rcases ob6.2 with ⟨h0, _⟩ | ⟨g, cap, cur, h0, _⟩
    · injection h0 with _ h0 _
      omega
    · injection h0 with h0 _ _
      exact ⟨g, h0⟩
  have hgF : w.heap.size + 2 ≤ gF := (ob6.lt gF rfl).1
  clear c5 fz5 x4 z4 hb04 hq4 hh4 b6 hB4 hown5 hb5 x5 z5 hb05 hq5 hh5 ob5 hCb hz2 hz4
  go_wp2
  generalize w5.setCell ⟨w.heap.size, 6, none⟩ (.slice (some ⟨gF, 0, none⟩) ps.length m1) = v6 at *
  clear c6 fz6
  go_loopw [22] (fun i wr => ∃ (k : Nat) (qs : List Bp), k ≤ ps.length ∧ i = .int .i64 k ∧ Hid (bks qs = (bks ps).take k) ∧ Hid (qs.length = k) ∧ wr.ownsRow (w.heap.size + 2) 31 4 (.slice D l.length d1) l.length (qcells l) ∧ wr.ownsRow (w.heap.size + 2) 45 4 (.slice E hs.length f1) hs.length (hcells hs)
    ∧ wr.ownsRow (w.heap.size + 2) 39 1 (.slice (some ⟨gF, 0, none⟩) ps.length m1) ps.length (bkcells (qs ++ ps.drop k)) ∧ Hid (∀ p ∈ qs, wr.ownsRow (w.heap.size + 2) 51 2 (.slice p.1 p.2.2.length p.2.1) p.2.2.length (encells p.2.2)) ∧ Bx wr w.heap.size [.int .i64 most, .slice D l.length d1, .int .i64 ba, .int .i64 ev, .int .i64 nw, .slice E hs.length f1, .slice (some ⟨gF, 0, none⟩) ps.length m1] ∧ Bx wr (w.heap.size + 1) [.int .i64 0, .slice none 0 0, .int .i64 0, .int .i64 0, .int .i64 0, .slice none 0 0, .slice none 0 0] ∧ Below w.heap.size w wr) (fun i _ => ps.length - (intOf i).toNat)
  case atStart => exact ⟨0, [], Nat.zero_le _, rfl, by show _ = _; simp [bks], rfl, hq6, hh6, by simpa using ob6, fun p hp => by simp at hp, x6, z6, hb06⟩
  case round =>
    obtain ⟨k, qs, hk, rfl, HQ, HQL, oq, oh, ob, HO, x3, z3, hbl⟩ := hrel
    clear x6 z6 hb06 hq6 hh6 ob6 d6
    have hz := z3.lt
    by_cases hlt : k < ps.length
    · have hB3 := hB.below hbl
      have rB := hB3.each _ (List.getElem_mem hlt)
      have hpk := HPB.out _ (List.getElem_mem hlt)
      have HQ2 : ∀ u : Bp, u.2.2 = ps[k].2.2 → Hid (bks (qs ++ [u]) = (bks ps).take (k + 1)) := fun u hu => by
        show _ = _
        rw [bks_append, HQ.out, List.take_succ_eq_append_getElem (by rw [bks_length]; exact hlt), bks_get ps k hlt, ← hu]
        rfl
      have HST : ∀ u : Bp, Hid ((bkcells (qs ++ ps.drop k)).set k (.slice u.1 u.2.2.length u.2.1) = bkcells (qs ++ [u] ++ ps.drop (k + 1))) := fun u => by
        show _ = _
        exact bkcells_put qs ps k HQL.out hlt u
      have cF : wr.cell? ⟨gF, k, none⟩ = some (.slice ps[k].1 ps[k].2.2.length ps[k].2.1) := by
        have hll : (bkcells (qs ++ ps.drop k)).length = ps.length := by rw [bkcells_length, List.length_append, HQL.out, List.length_drop]; omega
        obtain ⟨g, off, e1, hc⟩ := Row.ownN ob (by omega)
        injection e1 with e1
        injection e1 with e1 e2 _
        subst e1
        subst e2
        have := hc k (by omega)
        rw [Nat.zero_add] at this
        rw [this]
        simp only [bkcells, List.getElem_map]
        rw [get_mid qs ps k HQL.out hlt]
      have i0 : (0 : Int) ≤ (k : Int) := by omega
      have i1 : (k : Int) < (ps.length : Int) := by omega
      generalize ps[k].2.2 = bk at *
      generalize ps[k].1 = P1 at *
      generalize ps[k].2.1 = P2 at *
      have hCe := fun (w : World) h => Lib.hid (cloneEntsS P1 P2 bk w (by omega) h)
      have a6 := x3.get7.2.2.2.2.2.2
      have hxg : w.heap.size ≠ gF := by omega
      have hzg : w.heap.size + 1 ≠ gF := by omega
      have HQLk := HQL
      clear hB3 hlt HQ HQL
      go_wp2
      refine wp_region_held_drew (S := fun W => W.cell? ⟨w.heap.size, 6, none⟩ = some (.slice (some ⟨gF, 0, none⟩) ps.length m1)) (by kernel_rfl) a6 (fun hHeld => ?_)
      refine wpAnyH_take (i := 0) (v := ?_) rfl (by kernel_rfl) (by kernel_rfl) (by kernel_rfl) (fun _ _ _ h => h) (Or.inl ⟨by rfl, ?_⟩) (by assumption) ?_
      rotate_left
      · intro wt hSt
        try dsimp only at hSt
        first | (go_simp; done) | (go_simp; with_reducible rfl)
      simp only [Act.put, List.setIfInBounds_toArray, List.set_cons_zero, List.set_cons_succ, List.getElem_toArray, List.getElem_cons_zero]
      refine wpAnyH_take (i := 1) (v := ?_) rfl (by kernel_rfl) (by kernel_rfl) (by kernel_rfl) (fun _ _ _ h => h) (Or.inl ⟨by rfl, ?_⟩) (by assumption) ?_
      rotate_left
      · intro wt hSt
        try dsimp only at hSt
        first | (go_simp; done) | (go_simp; with_reducible rfl)
      simp only [Act.put, List.setIfInBounds_toArray, List.set_cons_zero, List.set_cons_succ, List.getElem_toArray, List.getElem_cons_zero, List.getElem_cons_succ]
      refine wpAnyH_take (i := 2) (v := ?_) rfl (by kernel_rfl) (by kernel_rfl) (by kernel_rfl) (fun _ _ _ h => h) (Or.inl ⟨by rfl, ?_⟩) (by assumption) ?_
      rotate_left
      · intro wt hSt
        try dsimp only at hSt
        first | (go_simp; done) | (go_simp; with_reducible rfl)
      simp only [Act.put, List.setIfInBounds_toArray, List.set_cons_zero, List.set_cons_succ, List.getElem_toArray, List.getElem_cons_zero, List.getElem_cons_succ]
      refine wpAnyH_take (i := 3) (v := ?_) rfl (by kernel_rfl) (by kernel_rfl) (by kernel_rfl) (fun _ _ _ h => h) (Or.inl ⟨by rfl, ?_⟩) (by assumption) ?_
      rotate_left
      · intro wt hSt
        try dsimp only at hSt
        first | (go_simp; done) | (go_simp; with_reducible rfl)
      simp only [Act.put, List.setIfInBounds_toArray, List.set_cons_zero, List.set_cons_succ, List.getElem_toArray, List.getElem_cons_zero, List.getElem_cons_succ]
      refine wpAnyH_ready (rs := [4]) (by kernel_rfl) (by simp) ?_
      refine AllReadyH.cons rfl (fun K hK => ?_) AllReadyH.nil
      go_simp
      go_at_call 22
      refine (hCe _ (rB.drewN 1)).out.mono ?_
      rintro xx w7 ⟨P, p1, rfl, hown7', hb7'⟩
      have hb7 : Below wr.heap.size wr w7 := below_chain (bdrew (Below.refl _ _)) hb7'
      have ob7 := own_belowN ob hb7
      have x7 := x3.below hb7
      have z7 := z3.below hb7
      have a67 := x7.get7.2.2.2.2.2.2
      have c7 : w7.cell? ⟨gF, k, none⟩ = some (.slice P1 bk.length P2) := kept cF hb7
      have fz7 := ob7.frozenAt k
      have hst := ob7.stored k (.slice P bk.length p1)
      have x8 := x7.far (h := gF) (by omega) k (.slice P bk.length p1)
      have z8 := z7.far (h := gF) (by omega) k (.slice P bk.length p1)
      have a68 := x8.get7.2.2.2.2.2.2
      go_wp2_with fail
      refine hK.out _ _ a67 (fun hHeld => ?_)
      clear hK K
      refine wpAnyH_take (i := 5) (v := ?_) rfl (by kernel_rfl) (by kernel_rfl) (by kernel_rfl) (fun _ _ _ h => h) (Or.inl ⟨by rfl, ?_⟩) (by assumption) ?_
      rotate_left
      · intro wt hSt
        try dsimp only at hSt
        first | (go_simp; done) | (go_simp; with_reducible rfl)
      simp only [Act.put, List.setIfInBounds_toArray, List.set_cons_zero, List.set_cons_succ, List.getElem_toArray, List.getElem_cons_zero, List.getElem_cons_succ]
      refine wpAnyH_ready (rs := [6]) (by kernel_rfl) (by simp) ?_
      refine AllReadyH.cons rfl (fun K hK => ?_) AllReadyH.nil
      go_simp
      refine hK.out _ _ a68 (fun hHeld => ?_)
      clear hK K
      refine wpAnyH_done (by kernel_rfl) ?_ _
      have hown7 := own_base hown7'.row (by have := hb7.size; have := hbl.size; simp; omega : w.heap.size + 2 ≤ _)
      have hg8 := hst.2
      have ob8 := hst.1
      rw [(HST (P, p1, bk)).out] at ob8
      have oq8 := own_other (own_belowN oq hb7) ob7 (by decide) hg8
      have oh8 := own_other (own_belowN oh hb7) ob7 (by decide) hg8
      have oe8 := own_other hown7 ob7 (by decide) hg8
      have HO8 : Hid (∀ p ∈ qs ++ [(P, p1, bk)], (w7.setCell ⟨gF, k, none⟩ (.slice P bk.length p1)).ownsRow (w.heap.size + 2) 51 2 (.slice p.1 p.2.2.length p.2.1) p.2.2.length (encells p.2.2)) := fun p hp => by
        rcases List.mem_append.1 hp with h | h
        · exact own_other (own_belowN (HO.out p h) hb7) ob7 (by decide) hg8
        · rw [List.mem_singleton.1 h]; exact oe8
      have hb8 := (below_chain hbl hb7).setCell (p := ⟨gF, k, none⟩) (by show w.heap.size ≤ gF; omega) (.slice P bk.length p1)
      go_wp2
      go_roundw
      case rel => exact ⟨k + 1, qs ++ [(P, p1, bk)], by omega, by go_num, HQ2 _ rfl, by show _ = _; rw [List.length_append, HQLk.out]; rfl, oq8, oh8, ob8, HO8, x8, z8, hb8⟩
      case measure => simp [intOf]; omega
    · have HF : Hid (bks qs = bks ps) := by show _ = _; rw [HQ.out, List.take_of_length_le (by rw [bks_length]; omega)]
      have HL : Hid (ps.length = qs.length) := by show _ = _; rw [HQL.out]; omega
      have hkp : k = ps.length := by omega
      subst hkp
      rw [List.drop_length, List.append_nil] at ob
      have k1 : OwnCk wr (w.heap.size + 2) l hs D E (some ⟨gF, 0, none⟩) d1 f1 m1 qs := ⟨oq, oh, by have h := ob; rw [HL.out] at h; exact h, fun p hp => HO.out p hp⟩
      have z8 : Bx (((((((wr.setCell ⟨w.heap.size + 1, 0, none⟩ (.int .i64 most)).setCell ⟨w.heap.size + 1, 1, none⟩ (.slice D l.length d1)).setCell ⟨w.heap.size + 1, 2, none⟩ (.int .i64 ba)).setCell ⟨w.heap.size + 1, 3, none⟩ (.int .i64 ev)).setCell ⟨w.heap.size + 1, 4, none⟩ (.int .i64 nw)).setCell ⟨w.heap.size + 1, 5, none⟩ (.slice E hs.length f1)).setCell ⟨w.heap.size + 1, 6, none⟩ (.slice (some ⟨gF, 0, none⟩) ps.length m1)) (w.heap.size + 1) [.int .i64 most, .slice D l.length d1, .int .i64 ba, .int .i64 ev, .int .i64 nw, .slice E hs.length f1, .slice (some ⟨gF, 0, none⟩) ps.length m1] := (((((((z3.set 0 (.int .i64 most)).set 1 (.slice D l.length d1)).set 2 (.int .i64 ba)).set 3 (.int .i64 ev)).set 4 (.int .i64 nw)).set 5 (.slice E hs.length f1)).set 6 (.slice (some ⟨gF, 0, none⟩) ps.length m1))
      have k2 := Lib.hid ((((((((k1.set (g := w.heap.size + 1) (by omega) 0 (.int .i64 most)).set (g := w.heap.size + 1) (by omega) 1 (.slice D l.length d1)).set (g := w.heap.size + 1) (by omega) 2 (.int .i64 ba)).set (g := w.heap.size + 1) (by omega) 3 (.int .i64 ev)).set (g := w.heap.size + 1) (by omega) 4 (.int .i64 nw)).set (g := w.heap.size + 1) (by omega) 5 (.slice E hs.length f1)).set (g := w.heap.size + 1) (by omega) 6 (.slice (some ⟨gF, 0, none⟩) ps.length m1)).mono (by omega : w.heap.size ≤ w.heap.size + 2))
      have hb8 := Lib.hid (((((((hbl.setCell (p := ⟨w.heap.size + 1, 0, none⟩) (by omega : w.heap.size ≤ w.heap.size + 1) (.int .i64 most)).setCell (p := ⟨w.heap.size + 1, 1, none⟩) (by omega : w.heap.size ≤ w.heap.size + 1) (.slice D l.length d1)).setCell (p := ⟨w.heap.size + 1, 2, none⟩) (by omega : w.heap.size ≤ w.heap.size + 1) (.int .i64 ba)).setCell (p := ⟨w.heap.size + 1, 3, none⟩) (by omega : w.heap.size ≤ w.heap.size + 1) (.int .i64 ev)).setCell (p := ⟨w.heap.size + 1, 4, none⟩) (by omega : w.heap.size ≤ w.heap.size + 1) (.int .i64 nw)).setCell (p := ⟨w.heap.size + 1, 5, none⟩) (by omega : w.heap.size ≤ w.heap.size + 1) (.slice E hs.length f1)).setCell (p := ⟨w.heap.size + 1, 6, none⟩) (by omega : w.heap.size ≤ w.heap.size + 1) (.slice (some ⟨gF, 0, none⟩) ps.length m1))
      obtain ⟨a0, a1, a2, a3, a4, a5, a6⟩ := x3.get7
      obtain ⟨b0, b1, b2, b3, b4, b5, b6⟩ := z3.get7
      have g0 := z3.f 0 (by simp)
      have g1 := z3.f 1 (by simp)
      have g2 := z3.f 2 (by simp)
      have g3 := z3.f 3 (by simp)
      have g4 := z3.f 4 (by simp)
      have g5 := z3.f 5 (by simp)
      have g6 := z3.f 6 (by simp)
      clear k1 x3 z3 oq oh ob HO hbl HQ HPB HQL
      go_wp2
      generalize (((((((wr.setCell ⟨w.heap.size + 1, 0, none⟩ (.int .i64 most)).setCell ⟨w.heap.size + 1, 1, none⟩ (.slice D l.length d1)).setCell ⟨w.heap.size + 1, 2, none⟩ (.int .i64 ba)).setCell ⟨w.heap.size + 1, 3, none⟩ (.int .i64 ev)).setCell ⟨w.heap.size + 1, 4, none⟩ (.int .i64 nw)).setCell ⟨w.heap.size + 1, 5, none⟩ (.slice E hs.length f1)).setCell ⟨w.heap.size + 1, 6, none⟩ (.slice (some ⟨gF, 0, none⟩) ps.length m1)) = w9 at *
      obtain ⟨r0, r1, r2, r3, r4, r5, r6⟩ := z8.get7
      refine bodyPost_ret (v := .agg #[.int .i64 most, .slice D l.length d1, .int .i64 ba, .int .i64 ev, .int .i64 nw, .slice E hs.length f1, .slice (some ⟨gF, 0, none⟩) ps.length m1]) ?_ rfl ⟨D, d1, E, f1, some ⟨gF, 0, none⟩, m1, qs, by rw [HL.out], HF.out, k2.out, hb8.out⟩
      rw [results_cellOne rfl]
      go_simp
end Go.Proofs.YtjcockcilkiggaaGreat
/- Clerks: the book behind requests set one after the other; what a tick makes of a clerk. -/
namespace Go.Proofs.YtjcockcilkiggaaGreat
open Go.RowKit

theorem srt_sub {l m : List Bytes} (h : ∀ x ∈ l, x ∈ m) : (Bin.srt l).length ≤ (Bin.srt m).length := by
  have e : Bin.srt l = (Bin.srt m).filter (fun x => decide (x ∈ l)) := Bin.srt_only (Bin.srt_pairwise l) ((Bin.srt_pairwise m).filter _) fun x => by
    rw [Bin.srt_mem, List.mem_filter, Bin.srt_mem, decide_eq_true_eq]
    exact ⟨fun k => ⟨h x k, k⟩, fun k => k.2⟩
  rw [e]
  exact List.length_filter_le _ _
/-- Requests set one after the other. -/
def setAll (bk : List Ent) (l : List Ak) : List Ent := l.foldl (fun b a => setTo a.1 a.2.1 b) bk
theorem setAll_nil (bk : List Ent) : setAll bk [] = bk := rfl
theorem setAll_cons (bk : List Ent) (a : Ak) (l : List Ak) : setAll bk (a :: l) = setAll (setTo a.1 a.2.1 bk) l := rfl
theorem setAll_snoc (bk : List Ent) (l : List Ak) (a : Ak) : setAll bk (l ++ [a]) = setTo a.1 a.2.1 (setAll bk l) := by simp [setAll]
theorem setAll_names (bk : List Ent) (l : List Ak) (ho : (bk.map (·.1)).Pairwise Bin.R) : (setAll bk l).map (·.1) = Bin.srt (bk.map (·.1) ++ l.map (·.1)) := by
  induction l generalizing bk with
  | nil =>
    rw [setAll_nil, List.map_nil, List.append_nil]
    exact Bin.srt_only ho (Bin.srt_pairwise _) fun x => (Bin.srt_mem _ x).symm
  | cons a l ih =>
    rw [setAll_cons, ih _ (setTo_order _ _ _), setTo_names]
    refine Bin.srt_only (Bin.srt_pairwise _) (Bin.srt_pairwise _) fun x => ?_
    rw [Bin.srt_mem, Bin.srt_mem, List.mem_append, Bin.srt_mem, List.map_cons]
    simp [or_assoc]
theorem setAll_good {bk : List Ent} {l : List Ak} (hg : Good bk) (hl : ∀ x ∈ l, askFault x.1 x.2.1 = 0) (hn : (Bin.srt (bk.map (·.1) ++ l.map (·.1))).length ≤ 24) : Good (setAll bk l) := by
  induction l generalizing bk with
  | nil => exact hg
  | cons a l ih =>
    rw [setAll_cons]
    obtain ⟨h1, h2⟩ := (askFault_ok _ _).1 (hl a (by simp))
    have e1 : (setTo a.1 a.2.1 bk).length ≤ 24 := by
      have : (setTo a.1 a.2.1 bk).length = ((setTo a.1 a.2.1 bk).map (·.1)).length := by rw [List.length_map]
      rw [this, setTo_names]
      refine Nat.le_trans (srt_sub fun x hx => ?_) hn
      rcases List.mem_append.1 hx with h | h
      · exact List.mem_append_left _ h
      · rw [List.mem_singleton.1 h]; simp
    have hgood : Good (setTo a.1 a.2.1 bk) := by
      refine setTo_good _ _ _ hg h1 h2 ?_
      cases hs : (stands bk a.1).isSome with
      | true => exact .inl rfl
      | false =>
        have := setTo_length a.1 a.2.1 bk hg.order
        rw [hs, if_neg (by simp)] at this
        exact .inr (by omega)
    refine ih hgood (fun x hx => hl x (List.mem_cons_of_mem _ hx)) (Nat.le_trans (srt_sub fun x hx => ?_) hn)
    rw [setTo_names, List.mem_append, Bin.srt_mem] at hx
    rcases hx with h | h
    · rcases List.mem_append.1 h with h | h
      · exact List.mem_append_left _ h
      · rw [List.mem_singleton.1 h]; simp
    · exact List.mem_append_right _ (by simpa using .inr (by simpa using h))
/-- The names that stand behind it are those that were counted. -/
theorem setAll_counted (bk : List Ent) (l r : List Ak) (ho : (bk.map (·.1)).Pairwise Bin.R) (more : Bytes) :
    (Bin.srt (namesOf (setAll bk l) r more)).length ≤ (Bin.srt (namesOf bk (l ++ r) more)).length := by
  refine srt_sub fun x hx => ?_
  unfold namesOf at hx ⊢
  rw [setAll_names bk l ho] at hx
  rcases List.mem_append.1 hx with h | h
  · rcases List.mem_append.1 h with h | h
    · rw [Bin.srt_mem] at h
      rw [List.map_append, ← List.append_assoc]
      exact List.mem_append_left _ (List.mem_append_left _ h)
    · rw [List.map_append, ← List.append_assoc]
      exact List.mem_append_left _ (List.mem_append_right _ h)
  · exact List.mem_append_right _ h
end Go.Proofs.YtjcockcilkiggaaGreat
