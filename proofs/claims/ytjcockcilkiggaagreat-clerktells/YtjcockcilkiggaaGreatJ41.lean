/- Package clerk: New. It writes nothing that was there. -/
import Derived.Test.YtjcockcilkiggaaGreatJ29
import Derived.Test.YtjcockcilkiggaaGreatJ13
import Derived.Deep.DeepCutAuto
namespace Go.Proofs.YtjcockcilkiggaaGreat
set_option maxRecDepth 100000
open Go.RowKit

theorem pm_nil : prefMark [] [] = nil0 := by
  rw [prefMark_none [] [] (by simp) (fun y hy => by simp at hy)]
theorem first_ok : hfault (0, nil0, 0, 0) = 0 := by
  rw [hfault_ok]
  exact ⟨by decide, by decide, Hash.of_lt _, by decide, by decide, by decide, fun _ => rfl⟩
/-- The first error of a new clerk. -/
theorem new_fault (most ba ev : Int) : ckfault ⟨most, [], ba, ev, 0, [(0, nil0, 0, 0)], [[]]⟩ = if most < 1 ∨ 30 < most ∨ ba < 1 ∨ 30 < ba ∨ ev < 1 ∨ 1000 < ev then 4 else 0 := by
  have hc : (cfault [((0, nil0, 0, 0) : Hd)]).1 = 0 := (cfault_ok _).2 ⟨by simp, by simp, fun h hh => by rw [List.mem_singleton.1 hh]; exact (hfault_ok _).1 first_ok, fun i h => by simp at h⟩
  have hb : booksFault [[]] [((0, nil0, 0, 0) : Hd)] = 0 := (booksFault_ok _ _).2 fun i h h' => by
    obtain rfl : i = 0 := by simpa using h
    exact ⟨⟨by simp, by simp, by simp, List.Pairwise.nil⟩, pm_nil⟩
  have hs : Bin.srt [] = [] := Bin.srt_only (Bin.srt_pairwise _) List.Pairwise.nil fun x => by rw [Bin.srt_mem]
  have hn : namesN ⟨most, [], ba, ev, 0, [(0, nil0, 0, 0)], [[]]⟩ [] = 0 := by
    rw [namesN, lastBk_at (m := 0) (by rfl)]
    show (Bin.srt []).length = 0
    rw [hs]
    rfl
  have hf : ¬ formBad ⟨most, [], ba, ev, 0, [(0, nil0, 0, 0)], [[]]⟩ := by
    unfold formBad
    dsimp only
    rw [firstH_at (by simp), lastH_at (n := 0) (by simp)]
    simp
  have hq : qfault most [] = if most < 1 ∨ 30 < most then 4 else 0 := by
    rw [qfault]
    by_cases h1 : most < 1 ∨ 30 < most
    · rw [if_pos h1, if_pos h1]
    · rw [if_neg h1, if_neg h1, if_neg (show ¬ most < (([] : List Ak).length : Int) by simp; omega)]
      rfl
  have hrb : rangeBad ⟨most, [], ba, ev, 0, [(0, nil0, 0, 0)], [[]]⟩ ↔ (ba < 1 ∨ 30 < ba ∨ ev < 1 ∨ 1000 < ev) := by
    unfold rangeBad
    dsimp only
    omega
  unfold ckfault
  dsimp only
  rw [hc, hb, if_neg hf, hn, hq]
  by_cases h1 : most < 1 ∨ 30 < most
  · rw [if_pos h1, if_neg (show ¬ (4 : Int) = 0 by decide), if_pos (show most < 1 ∨ 30 < most ∨ ba < 1 ∨ 30 < ba ∨ ev < 1 ∨ 1000 < ev by omega)]
  · rw [if_neg h1, if_pos (rfl : (0 : Int) = 0)]
    by_cases h2 : ba < 1 ∨ 30 < ba ∨ ev < 1 ∨ 1000 < ev
    · rw [if_pos (hrb.2 h2), if_pos (show most < 1 ∨ 30 < most ∨ ba < 1 ∨ 30 < ba ∨ ev < 1 ∨ 1000 < ev by omega)]
    · rw [if_neg (fun h => h2 (hrb.1 h)), if_neg (show ¬ (most < 1 ∨ 30 < most ∨ ba < 1 ∨ 30 < ba ∨ ev < 1 ∨ 1000 < ev) by omega)]
      simp
theorem Row.setNew {w : World} {b k : Nat} {vs : List Value} (h : Row w (some ⟨b, 0, none⟩) vs) (hne : k ≠ b) (j : Nat) (u : Value) : Row (w.setCell ⟨k, j, none⟩ u) (some ⟨b, 0, none⟩) vs := fun h0 => by
  obtain ⟨g, off, e, hc⟩ := h h0
  refine ⟨g, off, e, fun i hi => (World.cell?_setCell_other w ⟨k, j, none⟩ ⟨g, off + i, none⟩ u (fun e' => hne ?_)).trans (hc i hi)⟩
  injection e with e
  injection e with e1 _ _
  injection e' with e2 _ _
  omega
theorem Books.setNew {w : World} {b k : Nat} (h : Books w (some ⟨b, 0, none⟩) [(none, 0, [])]) (hne : k ≠ b) (j : Nat) (u : Value) : Books (w.setCell ⟨k, j, none⟩ u) (some ⟨b, 0, none⟩) [(none, 0, [])] :=
  ⟨h.row.setNew hne j u, fun p hp => by rw [List.mem_singleton.1 hp]; exact Row.nil_ _ _⟩
theorem row_new (w : World) (vs : List Value) (t : TypeId) (b : Nat) (hb : b = w.heap.size) : Row (w.alloc (.cells vs.toArray t)) (some ⟨b, 0, none⟩) vs := by
  subst hb
  exact Row.new _ _ _ _ _ rfl rfl
set_option maxHeartbeats 8000000 in
theorem clerkNew_no (most ba ev : Int) (w : World) (r : Int) (hr : ckfault ⟨most, [], ba, ev, 0, [(0, nil0, 0, 0)], [[]]⟩ = r) (h0 : r ≠ 0) :
    Calls Tryz.prog 4 #[.int .i64 most, .int .i64 ba, .int .i64 ev] w (fun x w' => x = .returned (.tuple #[.agg #[.int .i64 0, .slice none 0 0, .int .i64 0, .int .i64 0, .int .i64 0, .slice none 0 0, .slice none 0 0], .int .i64 r]) ∧ Below w.heap.size w w') := by
  have hCk : ∀ (w : World) (H B : Option Addr), Row w H (hcells [(0, nil0, 0, 0)]) → Books w B [(none, 0, [])] → Hid (Calls Tryz.prog 11 #[.agg #[.int .i64 most, .slice none 0 0, .int .i64 ba, .int .i64 ev, .int .i64 0, .slice H 1 1, .slice B 1 1]] w fun x w' => x = .returned (.int .i64 r) ∧ Below w.heap.size w w') :=
    fun w H B h1 h2 => Lib.hid (clerkCheck most ba ev 0 [] [(0, nil0, 0, 0)] [(none, 0, [])] none H B 0 1 1 w (by simp) (by simp) (by simp; unfold maxLen; omega) (by simp; unfold maxLen; omega) (by simp) (Row.nil_ _ _) h1 h2 r hr)
  have c0 : (r != 0) = true := bne_iff_ne.2 h0
  clear hr h0
  have hz0 : Below w.heap.size w (w.alloc (.cells #[.int .i64 0, .slice none 0 0, .int .i64 0, .int .i64 0, .int .i64 0, .slice none 0 0, .slice none 0 0] 28)) := balloc (Below.refl _ _) _
  have z0 := Bx.new w _ rfl _ [.int .i64 0, .slice none 0 0, .int .i64 0, .int .i64 0, .int .i64 0, .slice none 0 0, .slice none 0 0] 28 rfl
  have hRt := fun (w : World) => Lib.hid (treeRoot_yes none 0 [] w ⟨by simp, by simp, by simp, List.Pairwise.nil⟩ (Row.nil_ _ _) nil0 pm_nil)
  have hmk : ∀ u : World, (Instr.makeSlice 26 (.int .i64 1) (.int .i64 1)).run Tryz.prog u = .ok (.slice (some ⟨u.heap.size, 0, none⟩) 1 1) (u.alloc (.cells #[.slice none 0 0] 39)) := fun _ => by kernel_rfl
  have hF := fun (w : World) => Lib.hid (headFirst_yes nil0 0 w first_ok)
  go_enter Tryz.func4, Tryz.ntmps4
  go_wp2_with fail
  refine (hRt _).out.mono ?_
  rintro xx w1 ⟨rfl, hb1⟩
  have z1 := z0.below hb1
  have hb01 := below_chain hz0 hb1
  go_wp2_with fail
  refine (hF _).out.mono ?_
  rintro xx w2 ⟨rfl, hb2⟩
  have hb23 := balloc hb2 (.cells #[.int .i64 0, .int .u64 (nil0 : Int), .int .u64 0, .int .i64 0] 45)
  have z3 := z1.below hb23
  have hb03 := below_chain hb01 hb23
  have h3 := Bx.new w2 _ rfl _ [.int .i64 0, .int .u64 (nil0 : Int), .int .u64 0, .int .i64 0] 45 rfl
  obtain ⟨gh, hgh⟩ : ∃ gh, w2.heap.size = gh := ⟨_, rfl⟩
  rw [hgh] at h3
  obtain ⟨⟨g0, g1, g2, g3⟩, _⟩ := h3.get4
  have HGH := Lib.hid hgh
  clear hz0 z0 hRt hF hb1 z1 hb01 hb2 hb23 h3
  go_upto_region 7 with fail
  try rw [hgh]
  clear hgh
  generalize (w2.alloc (.cells #[.int .i64 0, .int .u64 (nil0 : Int), .int .u64 0, .int .i64 0] 45)) = v5 at *

  refine wp_region_held_drew (S := fun W => W.cell? ⟨gh, 0, none⟩ = some (.int .i64 0) ∧ W.cell? ⟨gh, 1, none⟩ = some (.int .u64 (nil0 : Int)) ∧ W.cell? ⟨gh, 2, none⟩ = some (.int .u64 0) ∧ W.cell? ⟨gh, 3, none⟩ = some (.int .i64 0)) (by kernel_rfl) ⟨g0, g1, g2, g3⟩ (fun hHeld => ?_)
  refine wpAnyH_take (i := 0) (v := ?_) rfl (by kernel_rfl) (by kernel_rfl) (by kernel_rfl) (fun _ _ _ h => h) (Or.inl ⟨by rfl, ?_⟩) (by assumption) ?_
  rotate_left
  · intro wt hSt
    try dsimp only at hSt
    first | (go_simp; done) | (go_simp; with_reducible rfl)
  simp only [Act.put, List.setIfInBounds_toArray, List.set_cons_zero, List.set_cons_succ, List.getElem_toArray, List.getElem_cons_zero]
  refine wpAnyH_take (i := 1) (v := ?_) rfl (by kernel_rfl) (by kernel_rfl) (by kernel_rfl) (fun _ _ _ h => h) (Or.inl ⟨by rfl, ?_⟩) (by assumption) ?_
  rotate_left
  · intro wt hSt
    try dsimp only at hSt
    first | (go_simp; done) | (go_simp; with_reducible rfl)
  simp only [Act.put, List.setIfInBounds_toArray, List.set_cons_zero, List.set_cons_succ, List.getElem_toArray, List.getElem_cons_zero, List.getElem_cons_succ]
  refine wpAnyH_take (i := 2) (v := ?_) rfl (by kernel_rfl) (by kernel_rfl) (by kernel_rfl) (fun _ _ _ h => h) (Or.inl ⟨by rfl, ?_⟩) (by assumption) ?_
  rotate_left
  · intro wt hSt
    try dsimp only at hSt
    first | (go_simp; done) | (go_simp; with_reducible rfl)
  simp only [Act.put, List.setIfInBounds_toArray, List.set_cons_zero, List.set_cons_succ, List.getElem_toArray, List.getElem_cons_zero, List.getElem_cons_succ]
  refine wpAnyH_take (i := 3) (v := ?_) rfl (by kernel_rfl) (by kernel_rfl) (by kernel_rfl) (fun _ _ _ h => h) (Or.inl ⟨by rfl, ?_⟩) (by assumption) ?_
  rotate_left
  · intro wt hSt
    try dsimp only at hSt
    first | (go_simp; done) | (go_simp; with_reducible rfl)
  simp only [Act.put, List.setIfInBounds_toArray, List.set_cons_zero, List.set_cons_succ, List.getElem_toArray, List.getElem_cons_zero, List.getElem_cons_succ]
  refine wpAnyH_take (i := 4) (v := ?_) rfl (by kernel_rfl) (by kernel_rfl) (by kernel_rfl) (fun _ _ _ h => h) (Or.inl ⟨by rfl, ?_⟩) (by assumption) ?_
  rotate_left
  · intro wt hSt
    try dsimp only at hSt
    first | (go_simp; done) | (go_simp; with_reducible rfl)
  simp only [Act.put, List.setIfInBounds_toArray, List.set_cons_zero, List.set_cons_succ, List.getElem_toArray, List.getElem_cons_zero, List.getElem_cons_succ]
  refine wpAnyH_ready (rs := [5, 6, 8]) (by kernel_rfl) (by simp) ?_
  refine AllReadyH.cons rfl (fun K hK => ?_) (AllReadyH.cons rfl (fun K hK => ?_) (AllReadyH.cons rfl (fun K hK => ?_) (AllReadyH.nil)))
  · skip
    go_simp
    have hq0 : Below v5.heap.size v5 (v5.alloc (.cells #[.int .i64 0, .int .u64 (nil0 : Int), .int .u64 0, .int .i64 0] 45)).drew := bdrew (balloc (Below.refl _ _) _)
    refine hK.out _ _ ⟨kept g0 hq0, kept g1 hq0, kept g2 hq0, kept g3 hq0⟩ (fun hHeld => ?_)
    clear hK K
    refine wpAnyH_ready (rs := [6, 8]) (by kernel_rfl) (by simp) ?_
    refine AllReadyH.cons rfl (fun K hK => ?_) (AllReadyH.cons rfl (fun K hK => ?_) (AllReadyH.nil))
    · skip
      go_simp
      have hq1 : Below v5.heap.size v5 ((v5.alloc (.cells #[.int .i64 0, .int .u64 (nil0 : Int), .int .u64 0, .int .i64 0] 45)).alloc (.cells #[.slice none 0 0] 39)).drew := bdrew (balloc (balloc (Below.refl _ _) _) _)
      refine hK.out _ _ ⟨kept g0 hq1, kept g1 hq1, kept g2 hq1, kept g3 hq1⟩ (fun hHeld => ?_)
      clear hK K
      refine wpAnyH_take (i := 7) (v := ?_) rfl (by kernel_rfl) (by kernel_rfl) (by kernel_rfl) (fun _ _ _ h => h) (Or.inl ⟨by rfl, ?_⟩) (by assumption) ?_
      rotate_left
      · intro wt hSt
        try dsimp only at hSt
        first | (go_simp; done) | (go_simp; with_reducible rfl)
      simp only [Act.put, List.setIfInBounds_toArray, List.set_cons_zero, List.set_cons_succ, List.getElem_toArray, List.getElem_cons_zero, List.getElem_cons_succ]
      refine wpAnyH_ready (rs := [8]) (by kernel_rfl) (by simp) ?_
      refine AllReadyH.cons rfl (fun K hK => ?_) (AllReadyH.nil)
      go_simp
      have hq2 : Below v5.heap.size v5 (((v5.alloc (.cells #[.int .i64 0, .int .u64 (nil0 : Int), .int .u64 0, .int .i64 0] 45)).alloc (.cells #[.slice none 0 0] 39)).alloc (.cells #[.int .i64 0, .slice none 0 0, .int .i64 0, .int .i64 0, .int .i64 0, .slice none 0 0, .slice none 0 0] 28)).drew := bdrew (balloc (balloc (balloc (Below.refl _ _) _) _) _)
      refine hK.out _ _ ⟨kept g0 hq2, kept g1 hq2, kept g2 hq2, kept g3 hq2⟩ (fun hHeld => ?_)
      clear hK K
      refine wpAnyH_ready (rs := [9]) (by kernel_rfl) (by simp) ?_
      refine AllReadyH.cons rfl (fun K hK => ?_) (AllReadyH.nil)
      go_simp
      have hq9 : Below v5.heap.size v5 (((v5.alloc (.cells #[.int .i64 0, .int .u64 (nil0 : Int), .int .u64 0, .int .i64 0] 45)).alloc (.cells #[.slice none 0 0] 39)).alloc (.cells #[.int .i64 most, .slice none 0 0, .int .i64 ba, .int .i64 ev, .int .i64 0, .slice (some ⟨v5.heap.size, 0, none⟩) 1 1, .slice (some ⟨v5.heap.size + 1, 0, none⟩) 1 1] 28)).drew := bdrew (balloc (balloc (balloc (Below.refl _ _) _) _) _)
      refine hK.out _ _ ⟨kept g0 hq9, kept g1 hq9, kept g2 hq9, kept g3 hq9⟩ (fun hHeld => ?_)
      clear hK K
      refine wpAnyH_done (by kernel_rfl) ?_ _
      have xX : Bx (((v5.alloc (.cells #[.int .i64 0, .int .u64 (nil0 : Int), .int .u64 0, .int .i64 0] 45)).alloc (.cells #[.slice none 0 0] 39)).alloc (.cells #[.int .i64 most, .slice none 0 0, .int .i64 ba, .int .i64 ev, .int .i64 0, .slice (some ⟨v5.heap.size, 0, none⟩) 1 1, .slice (some ⟨v5.heap.size + 1, 0, none⟩) 1 1] 28)).drew (v5.heap.size + 1 + 1) [.int .i64 most, .slice none 0 0, .int .i64 ba, .int .i64 ev, .int .i64 0, .slice (some ⟨v5.heap.size, 0, none⟩) 1 1, .slice (some ⟨v5.heap.size + 1, 0, none⟩) 1 1] := (Bx.new ((v5.alloc (.cells #[.int .i64 0, .int .u64 (nil0 : Int), .int .u64 0, .int .i64 0] 45)).alloc (.cells #[.slice none 0 0] 39)) (v5.heap.size + 1 + 1) (by simp) _ [.int .i64 most, .slice none 0 0, .int .i64 ba, .int .i64 ev, .int .i64 0, .slice (some ⟨v5.heap.size, 0, none⟩) 1 1, .slice (some ⟨v5.heap.size + 1, 0, none⟩) 1 1] 28 rfl).drewN 1
      have hX : Row (((v5.alloc (.cells #[.int .i64 0, .int .u64 (nil0 : Int), .int .u64 0, .int .i64 0] 45)).alloc (.cells #[.slice none 0 0] 39)).alloc (.cells #[.int .i64 most, .slice none 0 0, .int .i64 ba, .int .i64 ev, .int .i64 0, .slice (some ⟨v5.heap.size, 0, none⟩) 1 1, .slice (some ⟨v5.heap.size + 1, 0, none⟩) 1 1] 28)).drew (some ⟨v5.heap.size, 0, none⟩) (hcells [(0, nil0, 0, 0)]) := (((row_new v5 (hcells [(0, nil0, 0, 0)]) 45 (v5.heap.size) rfl).alloc (.cells #[.slice none 0 0] 39)).alloc (.cells #[.int .i64 most, .slice none 0 0, .int .i64 ba, .int .i64 ev, .int .i64 0, .slice (some ⟨v5.heap.size, 0, none⟩) 1 1, .slice (some ⟨v5.heap.size + 1, 0, none⟩) 1 1] 28)).drewN 1
      have bX : Row (((v5.alloc (.cells #[.int .i64 0, .int .u64 (nil0 : Int), .int .u64 0, .int .i64 0] 45)).alloc (.cells #[.slice none 0 0] 39)).alloc (.cells #[.int .i64 most, .slice none 0 0, .int .i64 ba, .int .i64 ev, .int .i64 0, .slice (some ⟨v5.heap.size, 0, none⟩) 1 1, .slice (some ⟨v5.heap.size + 1, 0, none⟩) 1 1] 28)).drew (some ⟨v5.heap.size + 1, 0, none⟩) (bkcells [(none, 0, [])]) := ((row_new (v5.alloc (.cells #[.int .i64 0, .int .u64 (nil0 : Int), .int .u64 0, .int .i64 0] 45)) (bkcells [(none, 0, [])]) 39 (v5.heap.size + 1) (by simp)).alloc (.cells #[.int .i64 most, .slice none 0 0, .int .i64 ba, .int .i64 ev, .int .i64 0, .slice (some ⟨v5.heap.size, 0, none⟩) 1 1, .slice (some ⟨v5.heap.size + 1, 0, none⟩) 1 1] 28)).drewN 1
      have zX := z3.below hq9
      have hbX := below_chain hb03 hq9
      have hcX := xX.lt
      have hvz := z3.lt
      have BX : Books (((v5.alloc (.cells #[.int .i64 0, .int .u64 (nil0 : Int), .int .u64 0, .int .i64 0] 45)).alloc (.cells #[.slice none 0 0] 39)).alloc (.cells #[.int .i64 most, .slice none 0 0, .int .i64 ba, .int .i64 ev, .int .i64 0, .slice (some ⟨v5.heap.size, 0, none⟩) 1 1, .slice (some ⟨v5.heap.size + 1, 0, none⟩) 1 1] 28)).drew (some ⟨v5.heap.size + 1, 0, none⟩) [(none, 0, [])] := ⟨bX, fun p hp => by rw [List.mem_singleton.1 hp]; exact Row.nil_ _ _⟩
      clear hq9 z3 hb03 g0 g1 g2 g3 bX hHeld
      generalize (((v5.alloc (.cells #[.int .i64 0, .int .u64 (nil0 : Int), .int .u64 0, .int .i64 0] 45)).alloc (.cells #[.slice none 0 0] 39)).alloc (.cells #[.int .i64 most, .slice none 0 0, .int .i64 ba, .int .i64 ev, .int .i64 0, .slice (some ⟨v5.heap.size, 0, none⟩) 1 1, .slice (some ⟨v5.heap.size + 1, 0, none⟩) 1 1] 28)).drew = v9 at *
      obtain ⟨a0, a1, a2, a3, a4, a5, a6⟩ := xX.get7
      go_wp2_with fail
      refine (hCk _ _ _ hX BX).out.mono ?_
      rintro xx v10 ⟨rfl, hb10⟩
      have z10 := zX.below hb10
      have hb010 := below_chain hbX hb10
      have hX10 := hX.below hb10
      have BX10 := BX.below hb10
      have x10 := xX.below hb10
      clear a0 a1 a2 a3 a4 a5 a6 zX hbX hb10 hX BX xX hCk
      obtain ⟨a0, a1, a2, a3, a4, a5, a6⟩ := x10.get7
      have z9 : Bx (((((((v10.setCell ⟨w.heap.size, 0, none⟩ (.int .i64 0)).setCell ⟨w.heap.size, 1, none⟩ (.slice none 0 0)).setCell ⟨w.heap.size, 2, none⟩ (.int .i64 0)).setCell ⟨w.heap.size, 3, none⟩ (.int .i64 0)).setCell ⟨w.heap.size, 4, none⟩ (.int .i64 0)).setCell ⟨w.heap.size, 5, none⟩ (.slice none 0 0)).setCell ⟨w.heap.size, 6, none⟩ (.slice none 0 0)) (w.heap.size) [.int .i64 0, .slice none 0 0, .int .i64 0, .int .i64 0, .int .i64 0, .slice none 0 0, .slice none 0 0] := (((((((z10.set 0 (.int .i64 0)).set 1 (.slice none 0 0)).set 2 (.int .i64 0)).set 3 (.int .i64 0)).set 4 (.int .i64 0)).set 5 (.slice none 0 0)).set 6 (.slice none 0 0))
      have hb9 := Lib.hid (((((((hb010.setCell (p := ⟨w.heap.size, 0, none⟩) (by omega : w.heap.size ≤ w.heap.size) (.int .i64 0)).setCell (p := ⟨w.heap.size, 1, none⟩) (by omega : w.heap.size ≤ w.heap.size) (.slice none 0 0)).setCell (p := ⟨w.heap.size, 2, none⟩) (by omega : w.heap.size ≤ w.heap.size) (.int .i64 0)).setCell (p := ⟨w.heap.size, 3, none⟩) (by omega : w.heap.size ≤ w.heap.size) (.int .i64 0)).setCell (p := ⟨w.heap.size, 4, none⟩) (by omega : w.heap.size ≤ w.heap.size) (.int .i64 0)).setCell (p := ⟨w.heap.size, 5, none⟩) (by omega : w.heap.size ≤ w.heap.size) (.slice none 0 0)).setCell (p := ⟨w.heap.size, 6, none⟩) (by omega : w.heap.size ≤ w.heap.size) (.slice none 0 0))
      obtain ⟨b0, b1, b2, b3, b4, b5, b6⟩ := z10.get7
      have g0 := z10.f 0 (by simp)
      have g1 := z10.f 1 (by simp)
      have g2 := z10.f 2 (by simp)
      have g3 := z10.f 3 (by simp)
      have g4 := z10.f 4 (by simp)
      have g5 := z10.f 5 (by simp)
      have g6 := z10.f 6 (by simp)
      clear z10 x10 hX10 BX10
      go_wp2
      generalize (((((((v10.setCell ⟨w.heap.size, 0, none⟩ (.int .i64 0)).setCell ⟨w.heap.size, 1, none⟩ (.slice none 0 0)).setCell ⟨w.heap.size, 2, none⟩ (.int .i64 0)).setCell ⟨w.heap.size, 3, none⟩ (.int .i64 0)).setCell ⟨w.heap.size, 4, none⟩ (.int .i64 0)).setCell ⟨w.heap.size, 5, none⟩ (.slice none 0 0)).setCell ⟨w.heap.size, 6, none⟩ (.slice none 0 0)) = w9 at *
      obtain ⟨r0, r1, r2, r3, r4, r5, r6⟩ := z9.get7
      refine bodyPost_ret (v := .tuple #[.agg #[.int .i64 0, .slice none 0 0, .int .i64 0, .int .i64 0, .int .i64 0, .slice none 0 0, .slice none 0 0], .int .i64 r]) ?_ rfl ⟨rfl, hb9.out⟩
      rw [results_cell_tmp rfl]
      go_simp
    · skip
      go_simp
      have hq1 : Below v5.heap.size v5 ((v5.alloc (.cells #[.int .i64 0, .int .u64 (nil0 : Int), .int .u64 0, .int .i64 0] 45)).alloc (.cells #[.int .i64 0, .slice none 0 0, .int .i64 0, .int .i64 0, .int .i64 0, .slice none 0 0, .slice none 0 0] 28)).drew := bdrew (balloc (balloc (Below.refl _ _) _) _)
      refine hK.out _ _ ⟨kept g0 hq1, kept g1 hq1, kept g2 hq1, kept g3 hq1⟩ (fun hHeld => ?_)
      clear hK K
      refine wpAnyH_ready (rs := [6]) (by kernel_rfl) (by simp) ?_
      refine AllReadyH.cons rfl (fun K hK => ?_) (AllReadyH.nil)
      go_simp
      have hq2 : Below v5.heap.size v5 (((v5.alloc (.cells #[.int .i64 0, .int .u64 (nil0 : Int), .int .u64 0, .int .i64 0] 45)).alloc (.cells #[.int .i64 0, .slice none 0 0, .int .i64 0, .int .i64 0, .int .i64 0, .slice none 0 0, .slice none 0 0] 28)).alloc (.cells #[.slice none 0 0] 39)).drew := bdrew (balloc (balloc (balloc (Below.refl _ _) _) _) _)
      refine hK.out _ _ ⟨kept g0 hq2, kept g1 hq2, kept g2 hq2, kept g3 hq2⟩ (fun hHeld => ?_)
      clear hK K
      refine wpAnyH_take (i := 7) (v := ?_) rfl (by kernel_rfl) (by kernel_rfl) (by kernel_rfl) (fun _ _ _ h => h) (Or.inl ⟨by rfl, ?_⟩) (by assumption) ?_
      rotate_left
      · intro wt hSt
        try dsimp only at hSt
        first | (go_simp; done) | (go_simp; with_reducible rfl)
      simp only [Act.put, List.setIfInBounds_toArray, List.set_cons_zero, List.set_cons_succ, List.getElem_toArray, List.getElem_cons_zero, List.getElem_cons_succ]
      refine wpAnyH_ready (rs := [9]) (by kernel_rfl) (by simp) ?_
      refine AllReadyH.cons rfl (fun K hK => ?_) (AllReadyH.nil)
      go_simp
      have hq9 : Below v5.heap.size v5 (((v5.alloc (.cells #[.int .i64 0, .int .u64 (nil0 : Int), .int .u64 0, .int .i64 0] 45)).alloc (.cells #[.int .i64 most, .slice none 0 0, .int .i64 ba, .int .i64 ev, .int .i64 0, .slice (some ⟨v5.heap.size, 0, none⟩) 1 1, .slice (some ⟨v5.heap.size + 1 + 1, 0, none⟩) 1 1] 28)).alloc (.cells #[.slice none 0 0] 39)).drew := bdrew (balloc (balloc (balloc (Below.refl _ _) _) _) _)
      refine hK.out _ _ ⟨kept g0 hq9, kept g1 hq9, kept g2 hq9, kept g3 hq9⟩ (fun hHeld => ?_)
      clear hK K
      refine wpAnyH_done (by kernel_rfl) ?_ _
      have xX : Bx (((v5.alloc (.cells #[.int .i64 0, .int .u64 (nil0 : Int), .int .u64 0, .int .i64 0] 45)).alloc (.cells #[.int .i64 most, .slice none 0 0, .int .i64 ba, .int .i64 ev, .int .i64 0, .slice (some ⟨v5.heap.size, 0, none⟩) 1 1, .slice (some ⟨v5.heap.size + 1 + 1, 0, none⟩) 1 1] 28)).alloc (.cells #[.slice none 0 0] 39)).drew (v5.heap.size + 1) [.int .i64 most, .slice none 0 0, .int .i64 ba, .int .i64 ev, .int .i64 0, .slice (some ⟨v5.heap.size, 0, none⟩) 1 1, .slice (some ⟨v5.heap.size + 1 + 1, 0, none⟩) 1 1] := ((Bx.new (v5.alloc (.cells #[.int .i64 0, .int .u64 (nil0 : Int), .int .u64 0, .int .i64 0] 45)) (v5.heap.size + 1) (by simp) _ [.int .i64 most, .slice none 0 0, .int .i64 ba, .int .i64 ev, .int .i64 0, .slice (some ⟨v5.heap.size, 0, none⟩) 1 1, .slice (some ⟨v5.heap.size + 1 + 1, 0, none⟩) 1 1] 28 rfl).alloc (.cells #[.slice none 0 0] 39)).drewN 1
      have hX : Row (((v5.alloc (.cells #[.int .i64 0, .int .u64 (nil0 : Int), .int .u64 0, .int .i64 0] 45)).alloc (.cells #[.int .i64 most, .slice none 0 0, .int .i64 ba, .int .i64 ev, .int .i64 0, .slice (some ⟨v5.heap.size, 0, none⟩) 1 1, .slice (some ⟨v5.heap.size + 1 + 1, 0, none⟩) 1 1] 28)).alloc (.cells #[.slice none 0 0] 39)).drew (some ⟨v5.heap.size, 0, none⟩) (hcells [(0, nil0, 0, 0)]) := (((row_new v5 (hcells [(0, nil0, 0, 0)]) 45 (v5.heap.size) rfl).alloc (.cells #[.int .i64 most, .slice none 0 0, .int .i64 ba, .int .i64 ev, .int .i64 0, .slice (some ⟨v5.heap.size, 0, none⟩) 1 1, .slice (some ⟨v5.heap.size + 1 + 1, 0, none⟩) 1 1] 28)).alloc (.cells #[.slice none 0 0] 39)).drewN 1
      have bX : Row (((v5.alloc (.cells #[.int .i64 0, .int .u64 (nil0 : Int), .int .u64 0, .int .i64 0] 45)).alloc (.cells #[.int .i64 most, .slice none 0 0, .int .i64 ba, .int .i64 ev, .int .i64 0, .slice (some ⟨v5.heap.size, 0, none⟩) 1 1, .slice (some ⟨v5.heap.size + 1 + 1, 0, none⟩) 1 1] 28)).alloc (.cells #[.slice none 0 0] 39)).drew (some ⟨v5.heap.size + 1 + 1, 0, none⟩) (bkcells [(none, 0, [])]) := (row_new ((v5.alloc (.cells #[.int .i64 0, .int .u64 (nil0 : Int), .int .u64 0, .int .i64 0] 45)).alloc (.cells #[.int .i64 most, .slice none 0 0, .int .i64 ba, .int .i64 ev, .int .i64 0, .slice (some ⟨v5.heap.size, 0, none⟩) 1 1, .slice (some ⟨v5.heap.size + 1 + 1, 0, none⟩) 1 1] 28)) (bkcells [(none, 0, [])]) 39 (v5.heap.size + 1 + 1) (by simp)).drewN 1
      have zX := z3.below hq9
      have hbX := below_chain hb03 hq9
      have hcX := xX.lt
      have hvz := z3.lt
      have BX : Books (((v5.alloc (.cells #[.int .i64 0, .int .u64 (nil0 : Int), .int .u64 0, .int .i64 0] 45)).alloc (.cells #[.int .i64 most, .slice none 0 0, .int .i64 ba, .int .i64 ev, .int .i64 0, .slice (some ⟨v5.heap.size, 0, none⟩) 1 1, .slice (some ⟨v5.heap.size + 1 + 1, 0, none⟩) 1 1] 28)).alloc (.cells #[.slice none 0 0] 39)).drew (some ⟨v5.heap.size + 1 + 1, 0, none⟩) [(none, 0, [])] := ⟨bX, fun p hp => by rw [List.mem_singleton.1 hp]; exact Row.nil_ _ _⟩
      clear hq9 z3 hb03 g0 g1 g2 g3 bX hHeld
      generalize (((v5.alloc (.cells #[.int .i64 0, .int .u64 (nil0 : Int), .int .u64 0, .int .i64 0] 45)).alloc (.cells #[.int .i64 most, .slice none 0 0, .int .i64 ba, .int .i64 ev, .int .i64 0, .slice (some ⟨v5.heap.size, 0, none⟩) 1 1, .slice (some ⟨v5.heap.size + 1 + 1, 0, none⟩) 1 1] 28)).alloc (.cells #[.slice none 0 0] 39)).drew = v9 at *
      obtain ⟨a0, a1, a2, a3, a4, a5, a6⟩ := xX.get7
      go_wp2_with fail
      refine (hCk _ _ _ hX BX).out.mono ?_
      rintro xx v10 ⟨rfl, hb10⟩
      have z10 := zX.below hb10
      have hb010 := below_chain hbX hb10
      have hX10 := hX.below hb10
      have BX10 := BX.below hb10
      have x10 := xX.below hb10
      clear a0 a1 a2 a3 a4 a5 a6 zX hbX hb10 hX BX xX hCk
      obtain ⟨a0, a1, a2, a3, a4, a5, a6⟩ := x10.get7
      have z9 : Bx (((((((v10.setCell ⟨w.heap.size, 0, none⟩ (.int .i64 0)).setCell ⟨w.heap.size, 1, none⟩ (.slice none 0 0)).setCell ⟨w.heap.size, 2, none⟩ (.int .i64 0)).setCell ⟨w.heap.size, 3, none⟩ (.int .i64 0)).setCell ⟨w.heap.size, 4, none⟩ (.int .i64 0)).setCell ⟨w.heap.size, 5, none⟩ (.slice none 0 0)).setCell ⟨w.heap.size, 6, none⟩ (.slice none 0 0)) (w.heap.size) [.int .i64 0, .slice none 0 0, .int .i64 0, .int .i64 0, .int .i64 0, .slice none 0 0, .slice none 0 0] := (((((((z10.set 0 (.int .i64 0)).set 1 (.slice none 0 0)).set 2 (.int .i64 0)).set 3 (.int .i64 0)).set 4 (.int .i64 0)).set 5 (.slice none 0 0)).set 6 (.slice none 0 0))
      have hb9 := Lib.hid (((((((hb010.setCell (p := ⟨w.heap.size, 0, none⟩) (by omega : w.heap.size ≤ w.heap.size) (.int .i64 0)).setCell (p := ⟨w.heap.size, 1, none⟩) (by omega : w.heap.size ≤ w.heap.size) (.slice none 0 0)).setCell (p := ⟨w.heap.size, 2, none⟩) (by omega : w.heap.size ≤ w.heap.size) (.int .i64 0)).setCell (p := ⟨w.heap.size, 3, none⟩) (by omega : w.heap.size ≤ w.heap.size) (.int .i64 0)).setCell (p := ⟨w.heap.size, 4, none⟩) (by omega : w.heap.size ≤ w.heap.size) (.int .i64 0)).setCell (p := ⟨w.heap.size, 5, none⟩) (by omega : w.heap.size ≤ w.heap.size) (.slice none 0 0)).setCell (p := ⟨w.heap.size, 6, none⟩) (by omega : w.heap.size ≤ w.heap.size) (.slice none 0 0))
      obtain ⟨b0, b1, b2, b3, b4, b5, b6⟩ := z10.get7
      have g0 := z10.f 0 (by simp)
      have g1 := z10.f 1 (by simp)
      have g2 := z10.f 2 (by simp)
      have g3 := z10.f 3 (by simp)
      have g4 := z10.f 4 (by simp)
      have g5 := z10.f 5 (by simp)
      have g6 := z10.f 6 (by simp)
      clear z10 x10 hX10 BX10
      go_wp2
      generalize (((((((v10.setCell ⟨w.heap.size, 0, none⟩ (.int .i64 0)).setCell ⟨w.heap.size, 1, none⟩ (.slice none 0 0)).setCell ⟨w.heap.size, 2, none⟩ (.int .i64 0)).setCell ⟨w.heap.size, 3, none⟩ (.int .i64 0)).setCell ⟨w.heap.size, 4, none⟩ (.int .i64 0)).setCell ⟨w.heap.size, 5, none⟩ (.slice none 0 0)).setCell ⟨w.heap.size, 6, none⟩ (.slice none 0 0)) = w9 at *
      obtain ⟨r0, r1, r2, r3, r4, r5, r6⟩ := z9.get7
      refine bodyPost_ret (v := .tuple #[.agg #[.int .i64 0, .slice none 0 0, .int .i64 0, .int .i64 0, .int .i64 0, .slice none 0 0, .slice none 0 0], .int .i64 r]) ?_ rfl ⟨rfl, hb9.out⟩
      rw [results_cell_tmp rfl]
      go_simp
  · skip
    go_simp
    have hq0 : Below v5.heap.size v5 (v5.alloc (.cells #[.slice none 0 0] 39)).drew := bdrew (balloc (Below.refl _ _) _)
    refine hK.out _ _ ⟨kept g0 hq0, kept g1 hq0, kept g2 hq0, kept g3 hq0⟩ (fun hHeld => ?_)
    clear hK K
    refine wpAnyH_ready (rs := [5, 8]) (by kernel_rfl) (by simp) ?_
    refine AllReadyH.cons rfl (fun K hK => ?_) (AllReadyH.cons rfl (fun K hK => ?_) (AllReadyH.nil))
    · skip
      go_simp
      have hq1 : Below v5.heap.size v5 ((v5.alloc (.cells #[.slice none 0 0] 39)).alloc (.cells #[.int .i64 0, .int .u64 (nil0 : Int), .int .u64 0, .int .i64 0] 45)).drew := bdrew (balloc (balloc (Below.refl _ _) _) _)
      refine hK.out _ _ ⟨kept g0 hq1, kept g1 hq1, kept g2 hq1, kept g3 hq1⟩ (fun hHeld => ?_)
      clear hK K
      refine wpAnyH_take (i := 7) (v := ?_) rfl (by kernel_rfl) (by kernel_rfl) (by kernel_rfl) (fun _ _ _ h => h) (Or.inl ⟨by rfl, ?_⟩) (by assumption) ?_
      rotate_left
      · intro wt hSt
        try dsimp only at hSt
        first | (go_simp; done) | (go_simp; with_reducible rfl)
      simp only [Act.put, List.setIfInBounds_toArray, List.set_cons_zero, List.set_cons_succ, List.getElem_toArray, List.getElem_cons_zero, List.getElem_cons_succ]
      refine wpAnyH_ready (rs := [8]) (by kernel_rfl) (by simp) ?_
      refine AllReadyH.cons rfl (fun K hK => ?_) (AllReadyH.nil)
      go_simp
      have hq2 : Below v5.heap.size v5 (((v5.alloc (.cells #[.slice none 0 0] 39)).alloc (.cells #[.int .i64 0, .int .u64 (nil0 : Int), .int .u64 0, .int .i64 0] 45)).alloc (.cells #[.int .i64 0, .slice none 0 0, .int .i64 0, .int .i64 0, .int .i64 0, .slice none 0 0, .slice none 0 0] 28)).drew := bdrew (balloc (balloc (balloc (Below.refl _ _) _) _) _)
      refine hK.out _ _ ⟨kept g0 hq2, kept g1 hq2, kept g2 hq2, kept g3 hq2⟩ (fun hHeld => ?_)
      clear hK K
      refine wpAnyH_ready (rs := [9]) (by kernel_rfl) (by simp) ?_
      refine AllReadyH.cons rfl (fun K hK => ?_) (AllReadyH.nil)
      go_simp
      have hq9 : Below v5.heap.size v5 (((v5.alloc (.cells #[.slice none 0 0] 39)).alloc (.cells #[.int .i64 0, .int .u64 (nil0 : Int), .int .u64 0, .int .i64 0] 45)).alloc (.cells #[.int .i64 most, .slice none 0 0, .int .i64 ba, .int .i64 ev, .int .i64 0, .slice (some ⟨v5.heap.size + 1, 0, none⟩) 1 1, .slice (some ⟨v5.heap.size, 0, none⟩) 1 1] 28)).drew := bdrew (balloc (balloc (balloc (Below.refl _ _) _) _) _)
      refine hK.out _ _ ⟨kept g0 hq9, kept g1 hq9, kept g2 hq9, kept g3 hq9⟩ (fun hHeld => ?_)
      clear hK K
      refine wpAnyH_done (by kernel_rfl) ?_ _
      have xX : Bx (((v5.alloc (.cells #[.slice none 0 0] 39)).alloc (.cells #[.int .i64 0, .int .u64 (nil0 : Int), .int .u64 0, .int .i64 0] 45)).alloc (.cells #[.int .i64 most, .slice none 0 0, .int .i64 ba, .int .i64 ev, .int .i64 0, .slice (some ⟨v5.heap.size + 1, 0, none⟩) 1 1, .slice (some ⟨v5.heap.size, 0, none⟩) 1 1] 28)).drew (v5.heap.size + 1 + 1) [.int .i64 most, .slice none 0 0, .int .i64 ba, .int .i64 ev, .int .i64 0, .slice (some ⟨v5.heap.size + 1, 0, none⟩) 1 1, .slice (some ⟨v5.heap.size, 0, none⟩) 1 1] := (Bx.new ((v5.alloc (.cells #[.slice none 0 0] 39)).alloc (.cells #[.int .i64 0, .int .u64 (nil0 : Int), .int .u64 0, .int .i64 0] 45)) (v5.heap.size + 1 + 1) (by simp) _ [.int .i64 most, .slice none 0 0, .int .i64 ba, .int .i64 ev, .int .i64 0, .slice (some ⟨v5.heap.size + 1, 0, none⟩) 1 1, .slice (some ⟨v5.heap.size, 0, none⟩) 1 1] 28 rfl).drewN 1
      have hX : Row (((v5.alloc (.cells #[.slice none 0 0] 39)).alloc (.cells #[.int .i64 0, .int .u64 (nil0 : Int), .int .u64 0, .int .i64 0] 45)).alloc (.cells #[.int .i64 most, .slice none 0 0, .int .i64 ba, .int .i64 ev, .int .i64 0, .slice (some ⟨v5.heap.size + 1, 0, none⟩) 1 1, .slice (some ⟨v5.heap.size, 0, none⟩) 1 1] 28)).drew (some ⟨v5.heap.size + 1, 0, none⟩) (hcells [(0, nil0, 0, 0)]) := ((row_new (v5.alloc (.cells #[.slice none 0 0] 39)) (hcells [(0, nil0, 0, 0)]) 45 (v5.heap.size + 1) (by simp)).alloc (.cells #[.int .i64 most, .slice none 0 0, .int .i64 ba, .int .i64 ev, .int .i64 0, .slice (some ⟨v5.heap.size + 1, 0, none⟩) 1 1, .slice (some ⟨v5.heap.size, 0, none⟩) 1 1] 28)).drewN 1
      have bX : Row (((v5.alloc (.cells #[.slice none 0 0] 39)).alloc (.cells #[.int .i64 0, .int .u64 (nil0 : Int), .int .u64 0, .int .i64 0] 45)).alloc (.cells #[.int .i64 most, .slice none 0 0, .int .i64 ba, .int .i64 ev, .int .i64 0, .slice (some ⟨v5.heap.size + 1, 0, none⟩) 1 1, .slice (some ⟨v5.heap.size, 0, none⟩) 1 1] 28)).drew (some ⟨v5.heap.size, 0, none⟩) (bkcells [(none, 0, [])]) := (((row_new v5 (bkcells [(none, 0, [])]) 39 (v5.heap.size) rfl).alloc (.cells #[.int .i64 0, .int .u64 (nil0 : Int), .int .u64 0, .int .i64 0] 45)).alloc (.cells #[.int .i64 most, .slice none 0 0, .int .i64 ba, .int .i64 ev, .int .i64 0, .slice (some ⟨v5.heap.size + 1, 0, none⟩) 1 1, .slice (some ⟨v5.heap.size, 0, none⟩) 1 1] 28)).drewN 1
      have zX := z3.below hq9
      have hbX := below_chain hb03 hq9
      have hcX := xX.lt
      have hvz := z3.lt
      have BX : Books (((v5.alloc (.cells #[.slice none 0 0] 39)).alloc (.cells #[.int .i64 0, .int .u64 (nil0 : Int), .int .u64 0, .int .i64 0] 45)).alloc (.cells #[.int .i64 most, .slice none 0 0, .int .i64 ba, .int .i64 ev, .int .i64 0, .slice (some ⟨v5.heap.size + 1, 0, none⟩) 1 1, .slice (some ⟨v5.heap.size, 0, none⟩) 1 1] 28)).drew (some ⟨v5.heap.size, 0, none⟩) [(none, 0, [])] := ⟨bX, fun p hp => by rw [List.mem_singleton.1 hp]; exact Row.nil_ _ _⟩
      clear hq9 z3 hb03 g0 g1 g2 g3 bX hHeld
      generalize (((v5.alloc (.cells #[.slice none 0 0] 39)).alloc (.cells #[.int .i64 0, .int .u64 (nil0 : Int), .int .u64 0, .int .i64 0] 45)).alloc (.cells #[.int .i64 most, .slice none 0 0, .int .i64 ba, .int .i64 ev, .int .i64 0, .slice (some ⟨v5.heap.size + 1, 0, none⟩) 1 1, .slice (some ⟨v5.heap.size, 0, none⟩) 1 1] 28)).drew = v9 at *
      obtain ⟨a0, a1, a2, a3, a4, a5, a6⟩ := xX.get7
      go_wp2_with fail
      refine (hCk _ _ _ hX BX).out.mono ?_
      rintro xx v10 ⟨rfl, hb10⟩
      have z10 := zX.below hb10
      have hb010 := below_chain hbX hb10
      have hX10 := hX.below hb10
      have BX10 := BX.below hb10
      have x10 := xX.below hb10
      clear a0 a1 a2 a3 a4 a5 a6 zX hbX hb10 hX BX xX hCk
      obtain ⟨a0, a1, a2, a3, a4, a5, a6⟩ := x10.get7
      have z9 : Bx (((((((v10.setCell ⟨w.heap.size, 0, none⟩ (.int .i64 0)).setCell ⟨w.heap.size, 1, none⟩ (.slice none 0 0)).setCell ⟨w.heap.size, 2, none⟩ (.int .i64 0)).setCell ⟨w.heap.size, 3, none⟩ (.int .i64 0)).setCell ⟨w.heap.size, 4, none⟩ (.int .i64 0)).setCell ⟨w.heap.size, 5, none⟩ (.slice none 0 0)).setCell ⟨w.heap.size, 6, none⟩ (.slice none 0 0)) (w.heap.size) [.int .i64 0, .slice none 0 0, .int .i64 0, .int .i64 0, .int .i64 0, .slice none 0 0, .slice none 0 0] := (((((((z10.set 0 (.int .i64 0)).set 1 (.slice none 0 0)).set 2 (.int .i64 0)).set 3 (.int .i64 0)).set 4 (.int .i64 0)).set 5 (.slice none 0 0)).set 6 (.slice none 0 0))
      have hb9 := Lib.hid (((((((hb010.setCell (p := ⟨w.heap.size, 0, none⟩) (by omega : w.heap.size ≤ w.heap.size) (.int .i64 0)).setCell (p := ⟨w.heap.size, 1, none⟩) (by omega : w.heap.size ≤ w.heap.size) (.slice none 0 0)).setCell (p := ⟨w.heap.size, 2, none⟩) (by omega : w.heap.size ≤ w.heap.size) (.int .i64 0)).setCell (p := ⟨w.heap.size, 3, none⟩) (by omega : w.heap.size ≤ w.heap.size) (.int .i64 0)).setCell (p := ⟨w.heap.size, 4, none⟩) (by omega : w.heap.size ≤ w.heap.size) (.int .i64 0)).setCell (p := ⟨w.heap.size, 5, none⟩) (by omega : w.heap.size ≤ w.heap.size) (.slice none 0 0)).setCell (p := ⟨w.heap.size, 6, none⟩) (by omega : w.heap.size ≤ w.heap.size) (.slice none 0 0))
      obtain ⟨b0, b1, b2, b3, b4, b5, b6⟩ := z10.get7
      have g0 := z10.f 0 (by simp)
      have g1 := z10.f 1 (by simp)
      have g2 := z10.f 2 (by simp)
      have g3 := z10.f 3 (by simp)
      have g4 := z10.f 4 (by simp)
      have g5 := z10.f 5 (by simp)
      have g6 := z10.f 6 (by simp)
      clear z10 x10 hX10 BX10
      go_wp2
      generalize (((((((v10.setCell ⟨w.heap.size, 0, none⟩ (.int .i64 0)).setCell ⟨w.heap.size, 1, none⟩ (.slice none 0 0)).setCell ⟨w.heap.size, 2, none⟩ (.int .i64 0)).setCell ⟨w.heap.size, 3, none⟩ (.int .i64 0)).setCell ⟨w.heap.size, 4, none⟩ (.int .i64 0)).setCell ⟨w.heap.size, 5, none⟩ (.slice none 0 0)).setCell ⟨w.heap.size, 6, none⟩ (.slice none 0 0)) = w9 at *
      obtain ⟨r0, r1, r2, r3, r4, r5, r6⟩ := z9.get7
      refine bodyPost_ret (v := .tuple #[.agg #[.int .i64 0, .slice none 0 0, .int .i64 0, .int .i64 0, .int .i64 0, .slice none 0 0, .slice none 0 0], .int .i64 r]) ?_ rfl ⟨rfl, hb9.out⟩
      rw [results_cell_tmp rfl]
      go_simp
    · skip
      go_simp
      have hq1 : Below v5.heap.size v5 ((v5.alloc (.cells #[.slice none 0 0] 39)).alloc (.cells #[.int .i64 0, .slice none 0 0, .int .i64 0, .int .i64 0, .int .i64 0, .slice none 0 0, .slice none 0 0] 28)).drew := bdrew (balloc (balloc (Below.refl _ _) _) _)
      refine hK.out _ _ ⟨kept g0 hq1, kept g1 hq1, kept g2 hq1, kept g3 hq1⟩ (fun hHeld => ?_)
      clear hK K
      refine wpAnyH_ready (rs := [5]) (by kernel_rfl) (by simp) ?_
      refine AllReadyH.cons rfl (fun K hK => ?_) (AllReadyH.nil)
      go_simp
      have hq2 : Below v5.heap.size v5 (((v5.alloc (.cells #[.slice none 0 0] 39)).alloc (.cells #[.int .i64 0, .slice none 0 0, .int .i64 0, .int .i64 0, .int .i64 0, .slice none 0 0, .slice none 0 0] 28)).alloc (.cells #[.int .i64 0, .int .u64 (nil0 : Int), .int .u64 0, .int .i64 0] 45)).drew := bdrew (balloc (balloc (balloc (Below.refl _ _) _) _) _)
      refine hK.out _ _ ⟨kept g0 hq2, kept g1 hq2, kept g2 hq2, kept g3 hq2⟩ (fun hHeld => ?_)
      clear hK K
      refine wpAnyH_take (i := 7) (v := ?_) rfl (by kernel_rfl) (by kernel_rfl) (by kernel_rfl) (fun _ _ _ h => h) (Or.inl ⟨by rfl, ?_⟩) (by assumption) ?_
      rotate_left
      · intro wt hSt
        try dsimp only at hSt
        first | (go_simp; done) | (go_simp; with_reducible rfl)
      simp only [Act.put, List.setIfInBounds_toArray, List.set_cons_zero, List.set_cons_succ, List.getElem_toArray, List.getElem_cons_zero, List.getElem_cons_succ]
      refine wpAnyH_ready (rs := [9]) (by kernel_rfl) (by simp) ?_
      refine AllReadyH.cons rfl (fun K hK => ?_) (AllReadyH.nil)
      go_simp
      have hq9 : Below v5.heap.size v5 (((v5.alloc (.cells #[.slice none 0 0] 39)).alloc (.cells #[.int .i64 most, .slice none 0 0, .int .i64 ba, .int .i64 ev, .int .i64 0, .slice (some ⟨v5.heap.size + 1 + 1, 0, none⟩) 1 1, .slice (some ⟨v5.heap.size, 0, none⟩) 1 1] 28)).alloc (.cells #[.int .i64 0, .int .u64 (nil0 : Int), .int .u64 0, .int .i64 0] 45)).drew := bdrew (balloc (balloc (balloc (Below.refl _ _) _) _) _)
      refine hK.out _ _ ⟨kept g0 hq9, kept g1 hq9, kept g2 hq9, kept g3 hq9⟩ (fun hHeld => ?_)
      clear hK K
      refine wpAnyH_done (by kernel_rfl) ?_ _
      have xX : Bx (((v5.alloc (.cells #[.slice none 0 0] 39)).alloc (.cells #[.int .i64 most, .slice none 0 0, .int .i64 ba, .int .i64 ev, .int .i64 0, .slice (some ⟨v5.heap.size + 1 + 1, 0, none⟩) 1 1, .slice (some ⟨v5.heap.size, 0, none⟩) 1 1] 28)).alloc (.cells #[.int .i64 0, .int .u64 (nil0 : Int), .int .u64 0, .int .i64 0] 45)).drew (v5.heap.size + 1) [.int .i64 most, .slice none 0 0, .int .i64 ba, .int .i64 ev, .int .i64 0, .slice (some ⟨v5.heap.size + 1 + 1, 0, none⟩) 1 1, .slice (some ⟨v5.heap.size, 0, none⟩) 1 1] := ((Bx.new (v5.alloc (.cells #[.slice none 0 0] 39)) (v5.heap.size + 1) (by simp) _ [.int .i64 most, .slice none 0 0, .int .i64 ba, .int .i64 ev, .int .i64 0, .slice (some ⟨v5.heap.size + 1 + 1, 0, none⟩) 1 1, .slice (some ⟨v5.heap.size, 0, none⟩) 1 1] 28 rfl).alloc (.cells #[.int .i64 0, .int .u64 (nil0 : Int), .int .u64 0, .int .i64 0] 45)).drewN 1
      have hX : Row (((v5.alloc (.cells #[.slice none 0 0] 39)).alloc (.cells #[.int .i64 most, .slice none 0 0, .int .i64 ba, .int .i64 ev, .int .i64 0, .slice (some ⟨v5.heap.size + 1 + 1, 0, none⟩) 1 1, .slice (some ⟨v5.heap.size, 0, none⟩) 1 1] 28)).alloc (.cells #[.int .i64 0, .int .u64 (nil0 : Int), .int .u64 0, .int .i64 0] 45)).drew (some ⟨v5.heap.size + 1 + 1, 0, none⟩) (hcells [(0, nil0, 0, 0)]) := (row_new ((v5.alloc (.cells #[.slice none 0 0] 39)).alloc (.cells #[.int .i64 most, .slice none 0 0, .int .i64 ba, .int .i64 ev, .int .i64 0, .slice (some ⟨v5.heap.size + 1 + 1, 0, none⟩) 1 1, .slice (some ⟨v5.heap.size, 0, none⟩) 1 1] 28)) (hcells [(0, nil0, 0, 0)]) 45 (v5.heap.size + 1 + 1) (by simp)).drewN 1
      have bX : Row (((v5.alloc (.cells #[.slice none 0 0] 39)).alloc (.cells #[.int .i64 most, .slice none 0 0, .int .i64 ba, .int .i64 ev, .int .i64 0, .slice (some ⟨v5.heap.size + 1 + 1, 0, none⟩) 1 1, .slice (some ⟨v5.heap.size, 0, none⟩) 1 1] 28)).alloc (.cells #[.int .i64 0, .int .u64 (nil0 : Int), .int .u64 0, .int .i64 0] 45)).drew (some ⟨v5.heap.size, 0, none⟩) (bkcells [(none, 0, [])]) := (((row_new v5 (bkcells [(none, 0, [])]) 39 (v5.heap.size) rfl).alloc (.cells #[.int .i64 most, .slice none 0 0, .int .i64 ba, .int .i64 ev, .int .i64 0, .slice (some ⟨v5.heap.size + 1 + 1, 0, none⟩) 1 1, .slice (some ⟨v5.heap.size, 0, none⟩) 1 1] 28)).alloc (.cells #[.int .i64 0, .int .u64 (nil0 : Int), .int .u64 0, .int .i64 0] 45)).drewN 1
      have zX := z3.below hq9
      have hbX := below_chain hb03 hq9
      have hcX := xX.lt
      have hvz := z3.lt
      have BX : Books (((v5.alloc (.cells #[.slice none 0 0] 39)).alloc (.cells #[.int .i64 most, .slice none 0 0, .int .i64 ba, .int .i64 ev, .int .i64 0, .slice (some ⟨v5.heap.size + 1 + 1, 0, none⟩) 1 1, .slice (some ⟨v5.heap.size, 0, none⟩) 1 1] 28)).alloc (.cells #[.int .i64 0, .int .u64 (nil0 : Int), .int .u64 0, .int .i64 0] 45)).drew (some ⟨v5.heap.size, 0, none⟩) [(none, 0, [])] := ⟨bX, fun p hp => by rw [List.mem_singleton.1 hp]; exact Row.nil_ _ _⟩
      clear hq9 z3 hb03 g0 g1 g2 g3 bX hHeld
      generalize (((v5.alloc (.cells #[.slice none 0 0] 39)).alloc (.cells #[.int .i64 most, .slice none 0 0, .int .i64 ba, .int .i64 ev, .int .i64 0, .slice (some ⟨v5.heap.size + 1 + 1, 0, none⟩) 1 1, .slice (some ⟨v5.heap.size, 0, none⟩) 1 1] 28)).alloc (.cells #[.int .i64 0, .int .u64 (nil0 : Int), .int .u64 0, .int .i64 0] 45)).drew = v9 at *
      obtain ⟨a0, a1, a2, a3, a4, a5, a6⟩ := xX.get7
      go_wp2_with fail
      refine (hCk _ _ _ hX BX).out.mono ?_
      rintro xx v10 ⟨rfl, hb10⟩
      have z10 := zX.below hb10
      have hb010 := below_chain hbX hb10
      have hX10 := hX.below hb10
      have BX10 := BX.below hb10
      have x10 := xX.below hb10
      clear a0 a1 a2 a3 a4 a5 a6 zX hbX hb10 hX BX xX hCk
      obtain ⟨a0, a1, a2, a3, a4, a5, a6⟩ := x10.get7
      have z9 : Bx (((((((v10.setCell ⟨w.heap.size, 0, none⟩ (.int .i64 0)).setCell ⟨w.heap.size, 1, none⟩ (.slice none 0 0)).setCell ⟨w.heap.size, 2, none⟩ (.int .i64 0)).setCell ⟨w.heap.size, 3, none⟩ (.int .i64 0)).setCell ⟨w.heap.size, 4, none⟩ (.int .i64 0)).setCell ⟨w.heap.size, 5, none⟩ (.slice none 0 0)).setCell ⟨w.heap.size, 6, none⟩ (.slice none 0 0)) (w.heap.size) [.int .i64 0, .slice none 0 0, .int .i64 0, .int .i64 0, .int .i64 0, .slice none 0 0, .slice none 0 0] := (((((((z10.set 0 (.int .i64 0)).set 1 (.slice none 0 0)).set 2 (.int .i64 0)).set 3 (.int .i64 0)).set 4 (.int .i64 0)).set 5 (.slice none 0 0)).set 6 (.slice none 0 0))
      have hb9 := Lib.hid (((((((hb010.setCell (p := ⟨w.heap.size, 0, none⟩) (by omega : w.heap.size ≤ w.heap.size) (.int .i64 0)).setCell (p := ⟨w.heap.size, 1, none⟩) (by omega : w.heap.size ≤ w.heap.size) (.slice none 0 0)).setCell (p := ⟨w.heap.size, 2, none⟩) (by omega : w.heap.size ≤ w.heap.size) (.int .i64 0)).setCell (p := ⟨w.heap.size, 3, none⟩) (by omega : w.heap.size ≤ w.heap.size) (.int .i64 0)).setCell (p := ⟨w.heap.size, 4, none⟩) (by omega : w.heap.size ≤ w.heap.size) (.int .i64 0)).setCell (p := ⟨w.heap.size, 5, none⟩) (by omega : w.heap.size ≤ w.heap.size) (.slice none 0 0)).setCell (p := ⟨w.heap.size, 6, none⟩) (by omega : w.heap.size ≤ w.heap.size) (.slice none 0 0))
      obtain ⟨b0, b1, b2, b3, b4, b5, b6⟩ := z10.get7
      have g0 := z10.f 0 (by simp)
      have g1 := z10.f 1 (by simp)
      have g2 := z10.f 2 (by simp)
      have g3 := z10.f 3 (by simp)
      have g4 := z10.f 4 (by simp)
      have g5 := z10.f 5 (by simp)
      have g6 := z10.f 6 (by simp)
      clear z10 x10 hX10 BX10
      go_wp2
      generalize (((((((v10.setCell ⟨w.heap.size, 0, none⟩ (.int .i64 0)).setCell ⟨w.heap.size, 1, none⟩ (.slice none 0 0)).setCell ⟨w.heap.size, 2, none⟩ (.int .i64 0)).setCell ⟨w.heap.size, 3, none⟩ (.int .i64 0)).setCell ⟨w.heap.size, 4, none⟩ (.int .i64 0)).setCell ⟨w.heap.size, 5, none⟩ (.slice none 0 0)).setCell ⟨w.heap.size, 6, none⟩ (.slice none 0 0)) = w9 at *
      obtain ⟨r0, r1, r2, r3, r4, r5, r6⟩ := z9.get7
      refine bodyPost_ret (v := .tuple #[.agg #[.int .i64 0, .slice none 0 0, .int .i64 0, .int .i64 0, .int .i64 0, .slice none 0 0, .slice none 0 0], .int .i64 r]) ?_ rfl ⟨rfl, hb9.out⟩
      rw [results_cell_tmp rfl]
      go_simp
  · skip
    go_simp
    have hq0 : Below v5.heap.size v5 (v5.alloc (.cells #[.int .i64 0, .slice none 0 0, .int .i64 0, .int .i64 0, .int .i64 0, .slice none 0 0, .slice none 0 0] 28)).drew := bdrew (balloc (Below.refl _ _) _)
    refine hK.out _ _ ⟨kept g0 hq0, kept g1 hq0, kept g2 hq0, kept g3 hq0⟩ (fun hHeld => ?_)
    clear hK K
    refine wpAnyH_ready (rs := [5, 6]) (by kernel_rfl) (by simp) ?_
    refine AllReadyH.cons rfl (fun K hK => ?_) (AllReadyH.cons rfl (fun K hK => ?_) (AllReadyH.nil))
    · skip
      go_simp
      have hq1 : Below v5.heap.size v5 ((v5.alloc (.cells #[.int .i64 0, .slice none 0 0, .int .i64 0, .int .i64 0, .int .i64 0, .slice none 0 0, .slice none 0 0] 28)).alloc (.cells #[.int .i64 0, .int .u64 (nil0 : Int), .int .u64 0, .int .i64 0] 45)).drew := bdrew (balloc (balloc (Below.refl _ _) _) _)
      refine hK.out _ _ ⟨kept g0 hq1, kept g1 hq1, kept g2 hq1, kept g3 hq1⟩ (fun hHeld => ?_)
      clear hK K
      refine wpAnyH_ready (rs := [6]) (by kernel_rfl) (by simp) ?_
      refine AllReadyH.cons rfl (fun K hK => ?_) (AllReadyH.nil)
      go_simp
      have hq2 : Below v5.heap.size v5 (((v5.alloc (.cells #[.int .i64 0, .slice none 0 0, .int .i64 0, .int .i64 0, .int .i64 0, .slice none 0 0, .slice none 0 0] 28)).alloc (.cells #[.int .i64 0, .int .u64 (nil0 : Int), .int .u64 0, .int .i64 0] 45)).alloc (.cells #[.slice none 0 0] 39)).drew := bdrew (balloc (balloc (balloc (Below.refl _ _) _) _) _)
      refine hK.out _ _ ⟨kept g0 hq2, kept g1 hq2, kept g2 hq2, kept g3 hq2⟩ (fun hHeld => ?_)
      clear hK K
      refine wpAnyH_take (i := 7) (v := ?_) rfl (by kernel_rfl) (by kernel_rfl) (by kernel_rfl) (fun _ _ _ h => h) (Or.inl ⟨by rfl, ?_⟩) (by assumption) ?_
      rotate_left
      · intro wt hSt
        try dsimp only at hSt
        first | (go_simp; done) | (go_simp; with_reducible rfl)
      simp only [Act.put, List.setIfInBounds_toArray, List.set_cons_zero, List.set_cons_succ, List.getElem_toArray, List.getElem_cons_zero, List.getElem_cons_succ]
      refine wpAnyH_ready (rs := [9]) (by kernel_rfl) (by simp) ?_
      refine AllReadyH.cons rfl (fun K hK => ?_) (AllReadyH.nil)
      go_simp
      have hq9 : Below v5.heap.size v5 (((v5.alloc (.cells #[.int .i64 most, .slice none 0 0, .int .i64 ba, .int .i64 ev, .int .i64 0, .slice (some ⟨v5.heap.size + 1, 0, none⟩) 1 1, .slice (some ⟨v5.heap.size + 1 + 1, 0, none⟩) 1 1] 28)).alloc (.cells #[.int .i64 0, .int .u64 (nil0 : Int), .int .u64 0, .int .i64 0] 45)).alloc (.cells #[.slice none 0 0] 39)).drew := bdrew (balloc (balloc (balloc (Below.refl _ _) _) _) _)
      refine hK.out _ _ ⟨kept g0 hq9, kept g1 hq9, kept g2 hq9, kept g3 hq9⟩ (fun hHeld => ?_)
      clear hK K
      refine wpAnyH_done (by kernel_rfl) ?_ _
      have xX : Bx (((v5.alloc (.cells #[.int .i64 most, .slice none 0 0, .int .i64 ba, .int .i64 ev, .int .i64 0, .slice (some ⟨v5.heap.size + 1, 0, none⟩) 1 1, .slice (some ⟨v5.heap.size + 1 + 1, 0, none⟩) 1 1] 28)).alloc (.cells #[.int .i64 0, .int .u64 (nil0 : Int), .int .u64 0, .int .i64 0] 45)).alloc (.cells #[.slice none 0 0] 39)).drew (v5.heap.size) [.int .i64 most, .slice none 0 0, .int .i64 ba, .int .i64 ev, .int .i64 0, .slice (some ⟨v5.heap.size + 1, 0, none⟩) 1 1, .slice (some ⟨v5.heap.size + 1 + 1, 0, none⟩) 1 1] := (((Bx.new v5 (v5.heap.size) rfl _ [.int .i64 most, .slice none 0 0, .int .i64 ba, .int .i64 ev, .int .i64 0, .slice (some ⟨v5.heap.size + 1, 0, none⟩) 1 1, .slice (some ⟨v5.heap.size + 1 + 1, 0, none⟩) 1 1] 28 rfl).alloc (.cells #[.int .i64 0, .int .u64 (nil0 : Int), .int .u64 0, .int .i64 0] 45)).alloc (.cells #[.slice none 0 0] 39)).drewN 1
      have hX : Row (((v5.alloc (.cells #[.int .i64 most, .slice none 0 0, .int .i64 ba, .int .i64 ev, .int .i64 0, .slice (some ⟨v5.heap.size + 1, 0, none⟩) 1 1, .slice (some ⟨v5.heap.size + 1 + 1, 0, none⟩) 1 1] 28)).alloc (.cells #[.int .i64 0, .int .u64 (nil0 : Int), .int .u64 0, .int .i64 0] 45)).alloc (.cells #[.slice none 0 0] 39)).drew (some ⟨v5.heap.size + 1, 0, none⟩) (hcells [(0, nil0, 0, 0)]) := ((row_new (v5.alloc (.cells #[.int .i64 most, .slice none 0 0, .int .i64 ba, .int .i64 ev, .int .i64 0, .slice (some ⟨v5.heap.size + 1, 0, none⟩) 1 1, .slice (some ⟨v5.heap.size + 1 + 1, 0, none⟩) 1 1] 28)) (hcells [(0, nil0, 0, 0)]) 45 (v5.heap.size + 1) (by simp)).alloc (.cells #[.slice none 0 0] 39)).drewN 1
      have bX : Row (((v5.alloc (.cells #[.int .i64 most, .slice none 0 0, .int .i64 ba, .int .i64 ev, .int .i64 0, .slice (some ⟨v5.heap.size + 1, 0, none⟩) 1 1, .slice (some ⟨v5.heap.size + 1 + 1, 0, none⟩) 1 1] 28)).alloc (.cells #[.int .i64 0, .int .u64 (nil0 : Int), .int .u64 0, .int .i64 0] 45)).alloc (.cells #[.slice none 0 0] 39)).drew (some ⟨v5.heap.size + 1 + 1, 0, none⟩) (bkcells [(none, 0, [])]) := (row_new ((v5.alloc (.cells #[.int .i64 most, .slice none 0 0, .int .i64 ba, .int .i64 ev, .int .i64 0, .slice (some ⟨v5.heap.size + 1, 0, none⟩) 1 1, .slice (some ⟨v5.heap.size + 1 + 1, 0, none⟩) 1 1] 28)).alloc (.cells #[.int .i64 0, .int .u64 (nil0 : Int), .int .u64 0, .int .i64 0] 45)) (bkcells [(none, 0, [])]) 39 (v5.heap.size + 1 + 1) (by simp)).drewN 1
      have zX := z3.below hq9
      have hbX := below_chain hb03 hq9
      have hcX := xX.lt
      have hvz := z3.lt
      have BX : Books (((v5.alloc (.cells #[.int .i64 most, .slice none 0 0, .int .i64 ba, .int .i64 ev, .int .i64 0, .slice (some ⟨v5.heap.size + 1, 0, none⟩) 1 1, .slice (some ⟨v5.heap.size + 1 + 1, 0, none⟩) 1 1] 28)).alloc (.cells #[.int .i64 0, .int .u64 (nil0 : Int), .int .u64 0, .int .i64 0] 45)).alloc (.cells #[.slice none 0 0] 39)).drew (some ⟨v5.heap.size + 1 + 1, 0, none⟩) [(none, 0, [])] := ⟨bX, fun p hp => by rw [List.mem_singleton.1 hp]; exact Row.nil_ _ _⟩
      clear hq9 z3 hb03 g0 g1 g2 g3 bX hHeld
      generalize (((v5.alloc (.cells #[.int .i64 most, .slice none 0 0, .int .i64 ba, .int .i64 ev, .int .i64 0, .slice (some ⟨v5.heap.size + 1, 0, none⟩) 1 1, .slice (some ⟨v5.heap.size + 1 + 1, 0, none⟩) 1 1] 28)).alloc (.cells #[.int .i64 0, .int .u64 (nil0 : Int), .int .u64 0, .int .i64 0] 45)).alloc (.cells #[.slice none 0 0] 39)).drew = v9 at *
      obtain ⟨a0, a1, a2, a3, a4, a5, a6⟩ := xX.get7
      go_wp2_with fail
      refine (hCk _ _ _ hX BX).out.mono ?_
      rintro xx v10 ⟨rfl, hb10⟩
      have z10 := zX.below hb10
      have hb010 := below_chain hbX hb10
      have hX10 := hX.below hb10
      have BX10 := BX.below hb10
      have x10 := xX.below hb10
      clear a0 a1 a2 a3 a4 a5 a6 zX hbX hb10 hX BX xX hCk
      obtain ⟨a0, a1, a2, a3, a4, a5, a6⟩ := x10.get7
      have z9 : Bx (((((((v10.setCell ⟨w.heap.size, 0, none⟩ (.int .i64 0)).setCell ⟨w.heap.size, 1, none⟩ (.slice none 0 0)).setCell ⟨w.heap.size, 2, none⟩ (.int .i64 0)).setCell ⟨w.heap.size, 3, none⟩ (.int .i64 0)).setCell ⟨w.heap.size, 4, none⟩ (.int .i64 0)).setCell ⟨w.heap.size, 5, none⟩ (.slice none 0 0)).setCell ⟨w.heap.size, 6, none⟩ (.slice none 0 0)) (w.heap.size) [.int .i64 0, .slice none 0 0, .int .i64 0, .int .i64 0, .int .i64 0, .slice none 0 0, .slice none 0 0] := (((((((z10.set 0 (.int .i64 0)).set 1 (.slice none 0 0)).set 2 (.int .i64 0)).set 3 (.int .i64 0)).set 4 (.int .i64 0)).set 5 (.slice none 0 0)).set 6 (.slice none 0 0))
      have hb9 := Lib.hid (((((((hb010.setCell (p := ⟨w.heap.size, 0, none⟩) (by omega : w.heap.size ≤ w.heap.size) (.int .i64 0)).setCell (p := ⟨w.heap.size, 1, none⟩) (by omega : w.heap.size ≤ w.heap.size) (.slice none 0 0)).setCell (p := ⟨w.heap.size, 2, none⟩) (by omega : w.heap.size ≤ w.heap.size) (.int .i64 0)).setCell (p := ⟨w.heap.size, 3, none⟩) (by omega : w.heap.size ≤ w.heap.size) (.int .i64 0)).setCell (p := ⟨w.heap.size, 4, none⟩) (by omega : w.heap.size ≤ w.heap.size) (.int .i64 0)).setCell (p := ⟨w.heap.size, 5, none⟩) (by omega : w.heap.size ≤ w.heap.size) (.slice none 0 0)).setCell (p := ⟨w.heap.size, 6, none⟩) (by omega : w.heap.size ≤ w.heap.size) (.slice none 0 0))
      obtain ⟨b0, b1, b2, b3, b4, b5, b6⟩ := z10.get7
      have g0 := z10.f 0 (by simp)
      have g1 := z10.f 1 (by simp)
      have g2 := z10.f 2 (by simp)
      have g3 := z10.f 3 (by simp)
      have g4 := z10.f 4 (by simp)
      have g5 := z10.f 5 (by simp)
      have g6 := z10.f 6 (by simp)
      clear z10 x10 hX10 BX10
      go_wp2
      generalize (((((((v10.setCell ⟨w.heap.size, 0, none⟩ (.int .i64 0)).setCell ⟨w.heap.size, 1, none⟩ (.slice none 0 0)).setCell ⟨w.heap.size, 2, none⟩ (.int .i64 0)).setCell ⟨w.heap.size, 3, none⟩ (.int .i64 0)).setCell ⟨w.heap.size, 4, none⟩ (.int .i64 0)).setCell ⟨w.heap.size, 5, none⟩ (.slice none 0 0)).setCell ⟨w.heap.size, 6, none⟩ (.slice none 0 0)) = w9 at *
      obtain ⟨r0, r1, r2, r3, r4, r5, r6⟩ := z9.get7
      refine bodyPost_ret (v := .tuple #[.agg #[.int .i64 0, .slice none 0 0, .int .i64 0, .int .i64 0, .int .i64 0, .slice none 0 0, .slice none 0 0], .int .i64 r]) ?_ rfl ⟨rfl, hb9.out⟩
      rw [results_cell_tmp rfl]
      go_simp
    · skip
      go_simp
      have hq1 : Below v5.heap.size v5 ((v5.alloc (.cells #[.int .i64 0, .slice none 0 0, .int .i64 0, .int .i64 0, .int .i64 0, .slice none 0 0, .slice none 0 0] 28)).alloc (.cells #[.slice none 0 0] 39)).drew := bdrew (balloc (balloc (Below.refl _ _) _) _)
      refine hK.out _ _ ⟨kept g0 hq1, kept g1 hq1, kept g2 hq1, kept g3 hq1⟩ (fun hHeld => ?_)
      clear hK K
      refine wpAnyH_ready (rs := [5]) (by kernel_rfl) (by simp) ?_
      refine AllReadyH.cons rfl (fun K hK => ?_) (AllReadyH.nil)
      go_simp
      have hq2 : Below v5.heap.size v5 (((v5.alloc (.cells #[.int .i64 0, .slice none 0 0, .int .i64 0, .int .i64 0, .int .i64 0, .slice none 0 0, .slice none 0 0] 28)).alloc (.cells #[.slice none 0 0] 39)).alloc (.cells #[.int .i64 0, .int .u64 (nil0 : Int), .int .u64 0, .int .i64 0] 45)).drew := bdrew (balloc (balloc (balloc (Below.refl _ _) _) _) _)
      refine hK.out _ _ ⟨kept g0 hq2, kept g1 hq2, kept g2 hq2, kept g3 hq2⟩ (fun hHeld => ?_)
      clear hK K
      refine wpAnyH_take (i := 7) (v := ?_) rfl (by kernel_rfl) (by kernel_rfl) (by kernel_rfl) (fun _ _ _ h => h) (Or.inl ⟨by rfl, ?_⟩) (by assumption) ?_
      rotate_left
      · intro wt hSt
        try dsimp only at hSt
        first | (go_simp; done) | (go_simp; with_reducible rfl)
      simp only [Act.put, List.setIfInBounds_toArray, List.set_cons_zero, List.set_cons_succ, List.getElem_toArray, List.getElem_cons_zero, List.getElem_cons_succ]
      refine wpAnyH_ready (rs := [9]) (by kernel_rfl) (by simp) ?_
      refine AllReadyH.cons rfl (fun K hK => ?_) (AllReadyH.nil)
      go_simp
      have hq9 : Below v5.heap.size v5 (((v5.alloc (.cells #[.int .i64 most, .slice none 0 0, .int .i64 ba, .int .i64 ev, .int .i64 0, .slice (some ⟨v5.heap.size + 1 + 1, 0, none⟩) 1 1, .slice (some ⟨v5.heap.size + 1, 0, none⟩) 1 1] 28)).alloc (.cells #[.slice none 0 0] 39)).alloc (.cells #[.int .i64 0, .int .u64 (nil0 : Int), .int .u64 0, .int .i64 0] 45)).drew := bdrew (balloc (balloc (balloc (Below.refl _ _) _) _) _)
      refine hK.out _ _ ⟨kept g0 hq9, kept g1 hq9, kept g2 hq9, kept g3 hq9⟩ (fun hHeld => ?_)
      clear hK K
      refine wpAnyH_done (by kernel_rfl) ?_ _
      have xX : Bx (((v5.alloc (.cells #[.int .i64 most, .slice none 0 0, .int .i64 ba, .int .i64 ev, .int .i64 0, .slice (some ⟨v5.heap.size + 1 + 1, 0, none⟩) 1 1, .slice (some ⟨v5.heap.size + 1, 0, none⟩) 1 1] 28)).alloc (.cells #[.slice none 0 0] 39)).alloc (.cells #[.int .i64 0, .int .u64 (nil0 : Int), .int .u64 0, .int .i64 0] 45)).drew (v5.heap.size) [.int .i64 most, .slice none 0 0, .int .i64 ba, .int .i64 ev, .int .i64 0, .slice (some ⟨v5.heap.size + 1 + 1, 0, none⟩) 1 1, .slice (some ⟨v5.heap.size + 1, 0, none⟩) 1 1] := (((Bx.new v5 (v5.heap.size) rfl _ [.int .i64 most, .slice none 0 0, .int .i64 ba, .int .i64 ev, .int .i64 0, .slice (some ⟨v5.heap.size + 1 + 1, 0, none⟩) 1 1, .slice (some ⟨v5.heap.size + 1, 0, none⟩) 1 1] 28 rfl).alloc (.cells #[.slice none 0 0] 39)).alloc (.cells #[.int .i64 0, .int .u64 (nil0 : Int), .int .u64 0, .int .i64 0] 45)).drewN 1
      have hX : Row (((v5.alloc (.cells #[.int .i64 most, .slice none 0 0, .int .i64 ba, .int .i64 ev, .int .i64 0, .slice (some ⟨v5.heap.size + 1 + 1, 0, none⟩) 1 1, .slice (some ⟨v5.heap.size + 1, 0, none⟩) 1 1] 28)).alloc (.cells #[.slice none 0 0] 39)).alloc (.cells #[.int .i64 0, .int .u64 (nil0 : Int), .int .u64 0, .int .i64 0] 45)).drew (some ⟨v5.heap.size + 1 + 1, 0, none⟩) (hcells [(0, nil0, 0, 0)]) := (row_new ((v5.alloc (.cells #[.int .i64 most, .slice none 0 0, .int .i64 ba, .int .i64 ev, .int .i64 0, .slice (some ⟨v5.heap.size + 1 + 1, 0, none⟩) 1 1, .slice (some ⟨v5.heap.size + 1, 0, none⟩) 1 1] 28)).alloc (.cells #[.slice none 0 0] 39)) (hcells [(0, nil0, 0, 0)]) 45 (v5.heap.size + 1 + 1) (by simp)).drewN 1
      have bX : Row (((v5.alloc (.cells #[.int .i64 most, .slice none 0 0, .int .i64 ba, .int .i64 ev, .int .i64 0, .slice (some ⟨v5.heap.size + 1 + 1, 0, none⟩) 1 1, .slice (some ⟨v5.heap.size + 1, 0, none⟩) 1 1] 28)).alloc (.cells #[.slice none 0 0] 39)).alloc (.cells #[.int .i64 0, .int .u64 (nil0 : Int), .int .u64 0, .int .i64 0] 45)).drew (some ⟨v5.heap.size + 1, 0, none⟩) (bkcells [(none, 0, [])]) := ((row_new (v5.alloc (.cells #[.int .i64 most, .slice none 0 0, .int .i64 ba, .int .i64 ev, .int .i64 0, .slice (some ⟨v5.heap.size + 1 + 1, 0, none⟩) 1 1, .slice (some ⟨v5.heap.size + 1, 0, none⟩) 1 1] 28)) (bkcells [(none, 0, [])]) 39 (v5.heap.size + 1) (by simp)).alloc (.cells #[.int .i64 0, .int .u64 (nil0 : Int), .int .u64 0, .int .i64 0] 45)).drewN 1
      have zX := z3.below hq9
      have hbX := below_chain hb03 hq9
      have hcX := xX.lt
      have hvz := z3.lt
      have BX : Books (((v5.alloc (.cells #[.int .i64 most, .slice none 0 0, .int .i64 ba, .int .i64 ev, .int .i64 0, .slice (some ⟨v5.heap.size + 1 + 1, 0, none⟩) 1 1, .slice (some ⟨v5.heap.size + 1, 0, none⟩) 1 1] 28)).alloc (.cells #[.slice none 0 0] 39)).alloc (.cells #[.int .i64 0, .int .u64 (nil0 : Int), .int .u64 0, .int .i64 0] 45)).drew (some ⟨v5.heap.size + 1, 0, none⟩) [(none, 0, [])] := ⟨bX, fun p hp => by rw [List.mem_singleton.1 hp]; exact Row.nil_ _ _⟩
      clear hq9 z3 hb03 g0 g1 g2 g3 bX hHeld
      generalize (((v5.alloc (.cells #[.int .i64 most, .slice none 0 0, .int .i64 ba, .int .i64 ev, .int .i64 0, .slice (some ⟨v5.heap.size + 1 + 1, 0, none⟩) 1 1, .slice (some ⟨v5.heap.size + 1, 0, none⟩) 1 1] 28)).alloc (.cells #[.slice none 0 0] 39)).alloc (.cells #[.int .i64 0, .int .u64 (nil0 : Int), .int .u64 0, .int .i64 0] 45)).drew = v9 at *
      obtain ⟨a0, a1, a2, a3, a4, a5, a6⟩ := xX.get7
      go_wp2_with fail
      refine (hCk _ _ _ hX BX).out.mono ?_
      rintro xx v10 ⟨rfl, hb10⟩
      have z10 := zX.below hb10
      have hb010 := below_chain hbX hb10
      have hX10 := hX.below hb10
      have BX10 := BX.below hb10
      have x10 := xX.below hb10
      clear a0 a1 a2 a3 a4 a5 a6 zX hbX hb10 hX BX xX hCk
      obtain ⟨a0, a1, a2, a3, a4, a5, a6⟩ := x10.get7
      have z9 : Bx (((((((v10.setCell ⟨w.heap.size, 0, none⟩ (.int .i64 0)).setCell ⟨w.heap.size, 1, none⟩ (.slice none 0 0)).setCell ⟨w.heap.size, 2, none⟩ (.int .i64 0)).setCell ⟨w.heap.size, 3, none⟩ (.int .i64 0)).setCell ⟨w.heap.size, 4, none⟩ (.int .i64 0)).setCell ⟨w.heap.size, 5, none⟩ (.slice none 0 0)).setCell ⟨w.heap.size, 6, none⟩ (.slice none 0 0)) (w.heap.size) [.int .i64 0, .slice none 0 0, .int .i64 0, .int .i64 0, .int .i64 0, .slice none 0 0, .slice none 0 0] := (((((((z10.set 0 (.int .i64 0)).set 1 (.slice none 0 0)).set 2 (.int .i64 0)).set 3 (.int .i64 0)).set 4 (.int .i64 0)).set 5 (.slice none 0 0)).set 6 (.slice none 0 0))
      have hb9 := Lib.hid (((((((hb010.setCell (p := ⟨w.heap.size, 0, none⟩) (by omega : w.heap.size ≤ w.heap.size) (.int .i64 0)).setCell (p := ⟨w.heap.size, 1, none⟩) (by omega : w.heap.size ≤ w.heap.size) (.slice none 0 0)).setCell (p := ⟨w.heap.size, 2, none⟩) (by omega : w.heap.size ≤ w.heap.size) (.int .i64 0)).setCell (p := ⟨w.heap.size, 3, none⟩) (by omega : w.heap.size ≤ w.heap.size) (.int .i64 0)).setCell (p := ⟨w.heap.size, 4, none⟩) (by omega : w.heap.size ≤ w.heap.size) (.int .i64 0)).setCell (p := ⟨w.heap.size, 5, none⟩) (by omega : w.heap.size ≤ w.heap.size) (.slice none 0 0)).setCell (p := ⟨w.heap.size, 6, none⟩) (by omega : w.heap.size ≤ w.heap.size) (.slice none 0 0))
      obtain ⟨b0, b1, b2, b3, b4, b5, b6⟩ := z10.get7
      have g0 := z10.f 0 (by simp)
      have g1 := z10.f 1 (by simp)
      have g2 := z10.f 2 (by simp)
      have g3 := z10.f 3 (by simp)
      have g4 := z10.f 4 (by simp)
      have g5 := z10.f 5 (by simp)
      have g6 := z10.f 6 (by simp)
      clear z10 x10 hX10 BX10
      go_wp2
      generalize (((((((v10.setCell ⟨w.heap.size, 0, none⟩ (.int .i64 0)).setCell ⟨w.heap.size, 1, none⟩ (.slice none 0 0)).setCell ⟨w.heap.size, 2, none⟩ (.int .i64 0)).setCell ⟨w.heap.size, 3, none⟩ (.int .i64 0)).setCell ⟨w.heap.size, 4, none⟩ (.int .i64 0)).setCell ⟨w.heap.size, 5, none⟩ (.slice none 0 0)).setCell ⟨w.heap.size, 6, none⟩ (.slice none 0 0)) = w9 at *
      obtain ⟨r0, r1, r2, r3, r4, r5, r6⟩ := z9.get7
      refine bodyPost_ret (v := .tuple #[.agg #[.int .i64 0, .slice none 0 0, .int .i64 0, .int .i64 0, .int .i64 0, .slice none 0 0, .slice none 0 0], .int .i64 r]) ?_ rfl ⟨rfl, hb9.out⟩
      rw [results_cell_tmp rfl]
      go_simp
/-- A new clerk. -/
def NewGives (most ba ev : Int) (w : World) (x : Ending) (w' : World) : Prop :=
  ∃ E F, x = .returned (.tuple #[.agg #[.int .i64 most, .slice none 0 0, .int .i64 ba, .int .i64 ev, .int .i64 0, .slice E 1 1, .slice F 1 1], .int .i64 0]) ∧ Row w' E (hcells [(0, nil0, 0, 0)]) ∧ Books w' F [(none, 0, [])] ∧ Below w.heap.size w w'
set_option maxHeartbeats 8000000 in
theorem clerkNew_ok (most ba ev : Int) (w : World) (hr : ckfault ⟨most, [], ba, ev, 0, [(0, nil0, 0, 0)], [[]]⟩ = 0) :
    Calls Tryz.prog 4 #[.int .i64 most, .int .i64 ba, .int .i64 ev] w (NewGives most ba ev w) := by
  have hCk : ∀ (w : World) (H B : Option Addr), Row w H (hcells [(0, nil0, 0, 0)]) → Books w B [(none, 0, [])] → Hid (Calls Tryz.prog 11 #[.agg #[.int .i64 most, .slice none 0 0, .int .i64 ba, .int .i64 ev, .int .i64 0, .slice H 1 1, .slice B 1 1]] w fun x w' => x = .returned (.int .i64 0) ∧ Below w.heap.size w w') :=
    fun w H B h1 h2 => Lib.hid (clerkCheck most ba ev 0 [] [(0, nil0, 0, 0)] [(none, 0, [])] none H B 0 1 1 w (by simp) (by simp) (by simp; unfold maxLen; omega) (by simp; unfold maxLen; omega) (by simp) (Row.nil_ _ _) h1 h2 0 hr)
  clear hr
  have hz0 : Below w.heap.size w (w.alloc (.cells #[.int .i64 0, .slice none 0 0, .int .i64 0, .int .i64 0, .int .i64 0, .slice none 0 0, .slice none 0 0] 28)) := balloc (Below.refl _ _) _
  have z0 := Bx.new w _ rfl _ [.int .i64 0, .slice none 0 0, .int .i64 0, .int .i64 0, .int .i64 0, .slice none 0 0, .slice none 0 0] 28 rfl
  have hRt := fun (w : World) => Lib.hid (treeRoot_yes none 0 [] w ⟨by simp, by simp, by simp, List.Pairwise.nil⟩ (Row.nil_ _ _) nil0 pm_nil)
  have hmk : ∀ u : World, (Instr.makeSlice 26 (.int .i64 1) (.int .i64 1)).run Tryz.prog u = .ok (.slice (some ⟨u.heap.size, 0, none⟩) 1 1) (u.alloc (.cells #[.slice none 0 0] 39)) := fun _ => by kernel_rfl
  have hF := fun (w : World) => Lib.hid (headFirst_yes nil0 0 w first_ok)
  go_enter Tryz.func4, Tryz.ntmps4
  go_wp2_with fail
  refine (hRt _).out.mono ?_
  rintro xx w1 ⟨rfl, hb1⟩
  have z1 := z0.below hb1
  have hb01 := below_chain hz0 hb1
  go_wp2_with fail
  refine (hF _).out.mono ?_
  rintro xx w2 ⟨rfl, hb2⟩
  have hb23 := balloc hb2 (.cells #[.int .i64 0, .int .u64 (nil0 : Int), .int .u64 0, .int .i64 0] 45)
  have z3 := z1.below hb23
  have hb03 := below_chain hb01 hb23
  have h3 := Bx.new w2 _ rfl _ [.int .i64 0, .int .u64 (nil0 : Int), .int .u64 0, .int .i64 0] 45 rfl
  obtain ⟨gh, hgh⟩ : ∃ gh, w2.heap.size = gh := ⟨_, rfl⟩
  rw [hgh] at h3
  obtain ⟨⟨g0, g1, g2, g3⟩, _⟩ := h3.get4
  have HGH := Lib.hid hgh
  clear hz0 z0 hRt hF hb1 z1 hb01 hb2 hb23 h3
  go_upto_region 7 with fail
  try rw [hgh]
  clear hgh
  generalize (w2.alloc (.cells #[.int .i64 0, .int .u64 (nil0 : Int), .int .u64 0, .int .i64 0] 45)) = v5 at *

  refine wp_region_held_drew (S := fun W => W.cell? ⟨gh, 0, none⟩ = some (.int .i64 0) ∧ W.cell? ⟨gh, 1, none⟩ = some (.int .u64 (nil0 : Int)) ∧ W.cell? ⟨gh, 2, none⟩ = some (.int .u64 0) ∧ W.cell? ⟨gh, 3, none⟩ = some (.int .i64 0)) (by kernel_rfl) ⟨g0, g1, g2, g3⟩ (fun hHeld => ?_)
  refine wpAnyH_take (i := 0) (v := ?_) rfl (by kernel_rfl) (by kernel_rfl) (by kernel_rfl) (fun _ _ _ h => h) (Or.inl ⟨by rfl, ?_⟩) (by assumption) ?_
  rotate_left
  · intro wt hSt
    try dsimp only at hSt
    first | (go_simp; done) | (go_simp; with_reducible rfl)
  simp only [Act.put, List.setIfInBounds_toArray, List.set_cons_zero, List.set_cons_succ, List.getElem_toArray, List.getElem_cons_zero]
  refine wpAnyH_take (i := 1) (v := ?_) rfl (by kernel_rfl) (by kernel_rfl) (by kernel_rfl) (fun _ _ _ h => h) (Or.inl ⟨by rfl, ?_⟩) (by assumption) ?_
  rotate_left
  · intro wt hSt
    try dsimp only at hSt
    first | (go_simp; done) | (go_simp; with_reducible rfl)
  simp only [Act.put, List.setIfInBounds_toArray, List.set_cons_zero, List.set_cons_succ, List.getElem_toArray, List.getElem_cons_zero, List.getElem_cons_succ]
  refine wpAnyH_take (i := 2) (v := ?_) rfl (by kernel_rfl) (by kernel_rfl) (by kernel_rfl) (fun _ _ _ h => h) (Or.inl ⟨by rfl, ?_⟩) (by assumption) ?_
  rotate_left
  · intro wt hSt
    try dsimp only at hSt
    first | (go_simp; done) | (go_simp; with_reducible rfl)
  simp only [Act.put, List.setIfInBounds_toArray, List.set_cons_zero, List.set_cons_succ, List.getElem_toArray, List.getElem_cons_zero, List.getElem_cons_succ]
  refine wpAnyH_take (i := 3) (v := ?_) rfl (by kernel_rfl) (by kernel_rfl) (by kernel_rfl) (fun _ _ _ h => h) (Or.inl ⟨by rfl, ?_⟩) (by assumption) ?_
  rotate_left
  · intro wt hSt
    try dsimp only at hSt
    first | (go_simp; done) | (go_simp; with_reducible rfl)
  simp only [Act.put, List.setIfInBounds_toArray, List.set_cons_zero, List.set_cons_succ, List.getElem_toArray, List.getElem_cons_zero, List.getElem_cons_succ]
  refine wpAnyH_take (i := 4) (v := ?_) rfl (by kernel_rfl) (by kernel_rfl) (by kernel_rfl) (fun _ _ _ h => h) (Or.inl ⟨by rfl, ?_⟩) (by assumption) ?_
  rotate_left
  · intro wt hSt
    try dsimp only at hSt
    first | (go_simp; done) | (go_simp; with_reducible rfl)
  simp only [Act.put, List.setIfInBounds_toArray, List.set_cons_zero, List.set_cons_succ, List.getElem_toArray, List.getElem_cons_zero, List.getElem_cons_succ]
  refine wpAnyH_ready (rs := [5, 6, 8]) (by kernel_rfl) (by simp) ?_
  refine AllReadyH.cons rfl (fun K hK => ?_) (AllReadyH.cons rfl (fun K hK => ?_) (AllReadyH.cons rfl (fun K hK => ?_) (AllReadyH.nil)))
  · skip
    go_simp
    have hq0 : Below v5.heap.size v5 (v5.alloc (.cells #[.int .i64 0, .int .u64 (nil0 : Int), .int .u64 0, .int .i64 0] 45)).drew := bdrew (balloc (Below.refl _ _) _)
    refine hK.out _ _ ⟨kept g0 hq0, kept g1 hq0, kept g2 hq0, kept g3 hq0⟩ (fun hHeld => ?_)
    clear hK K
    refine wpAnyH_ready (rs := [6, 8]) (by kernel_rfl) (by simp) ?_
    refine AllReadyH.cons rfl (fun K hK => ?_) (AllReadyH.cons rfl (fun K hK => ?_) (AllReadyH.nil))
    · skip
      go_simp
      have hq1 : Below v5.heap.size v5 ((v5.alloc (.cells #[.int .i64 0, .int .u64 (nil0 : Int), .int .u64 0, .int .i64 0] 45)).alloc (.cells #[.slice none 0 0] 39)).drew := bdrew (balloc (balloc (Below.refl _ _) _) _)
      refine hK.out _ _ ⟨kept g0 hq1, kept g1 hq1, kept g2 hq1, kept g3 hq1⟩ (fun hHeld => ?_)
      clear hK K
      refine wpAnyH_take (i := 7) (v := ?_) rfl (by kernel_rfl) (by kernel_rfl) (by kernel_rfl) (fun _ _ _ h => h) (Or.inl ⟨by rfl, ?_⟩) (by assumption) ?_
      rotate_left
      · intro wt hSt
        try dsimp only at hSt
        first | (go_simp; done) | (go_simp; with_reducible rfl)
      simp only [Act.put, List.setIfInBounds_toArray, List.set_cons_zero, List.set_cons_succ, List.getElem_toArray, List.getElem_cons_zero, List.getElem_cons_succ]
      refine wpAnyH_ready (rs := [8]) (by kernel_rfl) (by simp) ?_
      refine AllReadyH.cons rfl (fun K hK => ?_) (AllReadyH.nil)
      go_simp
      have hq2 : Below v5.heap.size v5 (((v5.alloc (.cells #[.int .i64 0, .int .u64 (nil0 : Int), .int .u64 0, .int .i64 0] 45)).alloc (.cells #[.slice none 0 0] 39)).alloc (.cells #[.int .i64 0, .slice none 0 0, .int .i64 0, .int .i64 0, .int .i64 0, .slice none 0 0, .slice none 0 0] 28)).drew := bdrew (balloc (balloc (balloc (Below.refl _ _) _) _) _)
      refine hK.out _ _ ⟨kept g0 hq2, kept g1 hq2, kept g2 hq2, kept g3 hq2⟩ (fun hHeld => ?_)
      clear hK K
      refine wpAnyH_ready (rs := [9]) (by kernel_rfl) (by simp) ?_
      refine AllReadyH.cons rfl (fun K hK => ?_) (AllReadyH.nil)
      go_simp
      have hq9 : Below v5.heap.size v5 (((v5.alloc (.cells #[.int .i64 0, .int .u64 (nil0 : Int), .int .u64 0, .int .i64 0] 45)).alloc (.cells #[.slice none 0 0] 39)).alloc (.cells #[.int .i64 most, .slice none 0 0, .int .i64 ba, .int .i64 ev, .int .i64 0, .slice (some ⟨v5.heap.size, 0, none⟩) 1 1, .slice (some ⟨v5.heap.size + 1, 0, none⟩) 1 1] 28)).drew := bdrew (balloc (balloc (balloc (Below.refl _ _) _) _) _)
      refine hK.out _ _ ⟨kept g0 hq9, kept g1 hq9, kept g2 hq9, kept g3 hq9⟩ (fun hHeld => ?_)
      clear hK K
      refine wpAnyH_done (by kernel_rfl) ?_ _
      have xX : Bx (((v5.alloc (.cells #[.int .i64 0, .int .u64 (nil0 : Int), .int .u64 0, .int .i64 0] 45)).alloc (.cells #[.slice none 0 0] 39)).alloc (.cells #[.int .i64 most, .slice none 0 0, .int .i64 ba, .int .i64 ev, .int .i64 0, .slice (some ⟨v5.heap.size, 0, none⟩) 1 1, .slice (some ⟨v5.heap.size + 1, 0, none⟩) 1 1] 28)).drew (v5.heap.size + 1 + 1) [.int .i64 most, .slice none 0 0, .int .i64 ba, .int .i64 ev, .int .i64 0, .slice (some ⟨v5.heap.size, 0, none⟩) 1 1, .slice (some ⟨v5.heap.size + 1, 0, none⟩) 1 1] := (Bx.new ((v5.alloc (.cells #[.int .i64 0, .int .u64 (nil0 : Int), .int .u64 0, .int .i64 0] 45)).alloc (.cells #[.slice none 0 0] 39)) (v5.heap.size + 1 + 1) (by simp) _ [.int .i64 most, .slice none 0 0, .int .i64 ba, .int .i64 ev, .int .i64 0, .slice (some ⟨v5.heap.size, 0, none⟩) 1 1, .slice (some ⟨v5.heap.size + 1, 0, none⟩) 1 1] 28 rfl).drewN 1
      have hX : Row (((v5.alloc (.cells #[.int .i64 0, .int .u64 (nil0 : Int), .int .u64 0, .int .i64 0] 45)).alloc (.cells #[.slice none 0 0] 39)).alloc (.cells #[.int .i64 most, .slice none 0 0, .int .i64 ba, .int .i64 ev, .int .i64 0, .slice (some ⟨v5.heap.size, 0, none⟩) 1 1, .slice (some ⟨v5.heap.size + 1, 0, none⟩) 1 1] 28)).drew (some ⟨v5.heap.size, 0, none⟩) (hcells [(0, nil0, 0, 0)]) := (((row_new v5 (hcells [(0, nil0, 0, 0)]) 45 (v5.heap.size) rfl).alloc (.cells #[.slice none 0 0] 39)).alloc (.cells #[.int .i64 most, .slice none 0 0, .int .i64 ba, .int .i64 ev, .int .i64 0, .slice (some ⟨v5.heap.size, 0, none⟩) 1 1, .slice (some ⟨v5.heap.size + 1, 0, none⟩) 1 1] 28)).drewN 1
      have bX : Row (((v5.alloc (.cells #[.int .i64 0, .int .u64 (nil0 : Int), .int .u64 0, .int .i64 0] 45)).alloc (.cells #[.slice none 0 0] 39)).alloc (.cells #[.int .i64 most, .slice none 0 0, .int .i64 ba, .int .i64 ev, .int .i64 0, .slice (some ⟨v5.heap.size, 0, none⟩) 1 1, .slice (some ⟨v5.heap.size + 1, 0, none⟩) 1 1] 28)).drew (some ⟨v5.heap.size + 1, 0, none⟩) (bkcells [(none, 0, [])]) := ((row_new (v5.alloc (.cells #[.int .i64 0, .int .u64 (nil0 : Int), .int .u64 0, .int .i64 0] 45)) (bkcells [(none, 0, [])]) 39 (v5.heap.size + 1) (by simp)).alloc (.cells #[.int .i64 most, .slice none 0 0, .int .i64 ba, .int .i64 ev, .int .i64 0, .slice (some ⟨v5.heap.size, 0, none⟩) 1 1, .slice (some ⟨v5.heap.size + 1, 0, none⟩) 1 1] 28)).drewN 1
      have zX := z3.below hq9
      have hbX := below_chain hb03 hq9
      have hcX := xX.lt
      have hvz := z3.lt
      have BX : Books (((v5.alloc (.cells #[.int .i64 0, .int .u64 (nil0 : Int), .int .u64 0, .int .i64 0] 45)).alloc (.cells #[.slice none 0 0] 39)).alloc (.cells #[.int .i64 most, .slice none 0 0, .int .i64 ba, .int .i64 ev, .int .i64 0, .slice (some ⟨v5.heap.size, 0, none⟩) 1 1, .slice (some ⟨v5.heap.size + 1, 0, none⟩) 1 1] 28)).drew (some ⟨v5.heap.size + 1, 0, none⟩) [(none, 0, [])] := ⟨bX, fun p hp => by rw [List.mem_singleton.1 hp]; exact Row.nil_ _ _⟩
      clear hq9 z3 hb03 g0 g1 g2 g3 bX hHeld
      generalize (((v5.alloc (.cells #[.int .i64 0, .int .u64 (nil0 : Int), .int .u64 0, .int .i64 0] 45)).alloc (.cells #[.slice none 0 0] 39)).alloc (.cells #[.int .i64 most, .slice none 0 0, .int .i64 ba, .int .i64 ev, .int .i64 0, .slice (some ⟨v5.heap.size, 0, none⟩) 1 1, .slice (some ⟨v5.heap.size + 1, 0, none⟩) 1 1] 28)).drew = v9 at *
      obtain ⟨a0, a1, a2, a3, a4, a5, a6⟩ := xX.get7
      go_wp2_with fail
      refine (hCk _ _ _ hX BX).out.mono ?_
      rintro xx v10 ⟨rfl, hb10⟩
      have z10 := zX.below hb10
      have hb010 := below_chain hbX hb10
      have hX10 := hX.below hb10
      have BX10 := BX.below hb10
      have x10 := xX.below hb10
      clear a0 a1 a2 a3 a4 a5 a6 zX hbX hb10 hX BX xX hCk
      obtain ⟨a0, a1, a2, a3, a4, a5, a6⟩ := x10.get7
      have z9 : Bx (((((((v10.setCell ⟨w.heap.size, 0, none⟩ (.int .i64 most)).setCell ⟨w.heap.size, 1, none⟩ (.slice none 0 0)).setCell ⟨w.heap.size, 2, none⟩ (.int .i64 ba)).setCell ⟨w.heap.size, 3, none⟩ (.int .i64 ev)).setCell ⟨w.heap.size, 4, none⟩ (.int .i64 0)).setCell ⟨w.heap.size, 5, none⟩ (.slice (some ⟨v5.heap.size, 0, none⟩) 1 1)).setCell ⟨w.heap.size, 6, none⟩ (.slice (some ⟨v5.heap.size + 1, 0, none⟩) 1 1)) (w.heap.size) [.int .i64 most, .slice none 0 0, .int .i64 ba, .int .i64 ev, .int .i64 0, .slice (some ⟨v5.heap.size, 0, none⟩) 1 1, .slice (some ⟨v5.heap.size + 1, 0, none⟩) 1 1] := (((((((z10.set 0 (.int .i64 most)).set 1 (.slice none 0 0)).set 2 (.int .i64 ba)).set 3 (.int .i64 ev)).set 4 (.int .i64 0)).set 5 (.slice (some ⟨v5.heap.size, 0, none⟩) 1 1)).set 6 (.slice (some ⟨v5.heap.size + 1, 0, none⟩) 1 1))
      have hb9 := Lib.hid (((((((hb010.setCell (p := ⟨w.heap.size, 0, none⟩) (by omega : w.heap.size ≤ w.heap.size) (.int .i64 most)).setCell (p := ⟨w.heap.size, 1, none⟩) (by omega : w.heap.size ≤ w.heap.size) (.slice none 0 0)).setCell (p := ⟨w.heap.size, 2, none⟩) (by omega : w.heap.size ≤ w.heap.size) (.int .i64 ba)).setCell (p := ⟨w.heap.size, 3, none⟩) (by omega : w.heap.size ≤ w.heap.size) (.int .i64 ev)).setCell (p := ⟨w.heap.size, 4, none⟩) (by omega : w.heap.size ≤ w.heap.size) (.int .i64 0)).setCell (p := ⟨w.heap.size, 5, none⟩) (by omega : w.heap.size ≤ w.heap.size) (.slice (some ⟨v5.heap.size, 0, none⟩) 1 1)).setCell (p := ⟨w.heap.size, 6, none⟩) (by omega : w.heap.size ≤ w.heap.size) (.slice (some ⟨v5.heap.size + 1, 0, none⟩) 1 1))
      have hX9 := Lib.hid ((Row.setNew (Row.setNew (Row.setNew (Row.setNew (Row.setNew (Row.setNew (Row.setNew hX10 (by omega : w.heap.size ≠ v5.heap.size) 0 (.int .i64 most)) (by omega : w.heap.size ≠ v5.heap.size) 1 (.slice none 0 0)) (by omega : w.heap.size ≠ v5.heap.size) 2 (.int .i64 ba)) (by omega : w.heap.size ≠ v5.heap.size) 3 (.int .i64 ev)) (by omega : w.heap.size ≠ v5.heap.size) 4 (.int .i64 0)) (by omega : w.heap.size ≠ v5.heap.size) 5 (.slice (some ⟨v5.heap.size, 0, none⟩) 1 1)) (by omega : w.heap.size ≠ v5.heap.size) 6 (.slice (some ⟨v5.heap.size + 1, 0, none⟩) 1 1)))
      have BX9 := Lib.hid ((Books.setNew (Books.setNew (Books.setNew (Books.setNew (Books.setNew (Books.setNew (Books.setNew BX10 (by omega : w.heap.size ≠ v5.heap.size + 1) 0 (.int .i64 most)) (by omega : w.heap.size ≠ v5.heap.size + 1) 1 (.slice none 0 0)) (by omega : w.heap.size ≠ v5.heap.size + 1) 2 (.int .i64 ba)) (by omega : w.heap.size ≠ v5.heap.size + 1) 3 (.int .i64 ev)) (by omega : w.heap.size ≠ v5.heap.size + 1) 4 (.int .i64 0)) (by omega : w.heap.size ≠ v5.heap.size + 1) 5 (.slice (some ⟨v5.heap.size, 0, none⟩) 1 1)) (by omega : w.heap.size ≠ v5.heap.size + 1) 6 (.slice (some ⟨v5.heap.size + 1, 0, none⟩) 1 1)))
      obtain ⟨b0, b1, b2, b3, b4, b5, b6⟩ := z10.get7
      have g0 := z10.f 0 (by simp)
      have g1 := z10.f 1 (by simp)
      have g2 := z10.f 2 (by simp)
      have g3 := z10.f 3 (by simp)
      have g4 := z10.f 4 (by simp)
      have g5 := z10.f 5 (by simp)
      have g6 := z10.f 6 (by simp)
      clear z10 x10
      go_wp2
      generalize (((((((v10.setCell ⟨w.heap.size, 0, none⟩ (.int .i64 most)).setCell ⟨w.heap.size, 1, none⟩ (.slice none 0 0)).setCell ⟨w.heap.size, 2, none⟩ (.int .i64 ba)).setCell ⟨w.heap.size, 3, none⟩ (.int .i64 ev)).setCell ⟨w.heap.size, 4, none⟩ (.int .i64 0)).setCell ⟨w.heap.size, 5, none⟩ (.slice (some ⟨v5.heap.size, 0, none⟩) 1 1)).setCell ⟨w.heap.size, 6, none⟩ (.slice (some ⟨v5.heap.size + 1, 0, none⟩) 1 1)) = w9 at *
      obtain ⟨r0, r1, r2, r3, r4, r5, r6⟩ := z9.get7
      refine bodyPost_ret (v := .tuple #[.agg #[.int .i64 most, .slice none 0 0, .int .i64 ba, .int .i64 ev, .int .i64 0, .slice (some ⟨v5.heap.size, 0, none⟩) 1 1, .slice (some ⟨v5.heap.size + 1, 0, none⟩) 1 1], .int .i64 0]) ?_ rfl ⟨_, _, rfl, hX9.out, BX9.out, hb9.out⟩
      rw [results_cell_tmp rfl]
      go_simp
    · skip
      go_simp
      have hq1 : Below v5.heap.size v5 ((v5.alloc (.cells #[.int .i64 0, .int .u64 (nil0 : Int), .int .u64 0, .int .i64 0] 45)).alloc (.cells #[.int .i64 0, .slice none 0 0, .int .i64 0, .int .i64 0, .int .i64 0, .slice none 0 0, .slice none 0 0] 28)).drew := bdrew (balloc (balloc (Below.refl _ _) _) _)
      refine hK.out _ _ ⟨kept g0 hq1, kept g1 hq1, kept g2 hq1, kept g3 hq1⟩ (fun hHeld => ?_)
      clear hK K
      refine wpAnyH_ready (rs := [6]) (by kernel_rfl) (by simp) ?_
      refine AllReadyH.cons rfl (fun K hK => ?_) (AllReadyH.nil)
      go_simp
      have hq2 : Below v5.heap.size v5 (((v5.alloc (.cells #[.int .i64 0, .int .u64 (nil0 : Int), .int .u64 0, .int .i64 0] 45)).alloc (.cells #[.int .i64 0, .slice none 0 0, .int .i64 0, .int .i64 0, .int .i64 0, .slice none 0 0, .slice none 0 0] 28)).alloc (.cells #[.slice none 0 0] 39)).drew := bdrew (balloc (balloc (balloc (Below.refl _ _) _) _) _)
      refine hK.out _ _ ⟨kept g0 hq2, kept g1 hq2, kept g2 hq2, kept g3 hq2⟩ (fun hHeld => ?_)
      clear hK K
      refine wpAnyH_take (i := 7) (v := ?_) rfl (by kernel_rfl) (by kernel_rfl) (by kernel_rfl) (fun _ _ _ h => h) (Or.inl ⟨by rfl, ?_⟩) (by assumption) ?_
      rotate_left
      · intro wt hSt
        try dsimp only at hSt
        first | (go_simp; done) | (go_simp; with_reducible rfl)
      simp only [Act.put, List.setIfInBounds_toArray, List.set_cons_zero, List.set_cons_succ, List.getElem_toArray, List.getElem_cons_zero, List.getElem_cons_succ]
      refine wpAnyH_ready (rs := [9]) (by kernel_rfl) (by simp) ?_
      refine AllReadyH.cons rfl (fun K hK => ?_) (AllReadyH.nil)
      go_simp
      have hq9 : Below v5.heap.size v5 (((v5.alloc (.cells #[.int .i64 0, .int .u64 (nil0 : Int), .int .u64 0, .int .i64 0] 45)).alloc (.cells #[.int .i64 most, .slice none 0 0, .int .i64 ba, .int .i64 ev, .int .i64 0, .slice (some ⟨v5.heap.size, 0, none⟩) 1 1, .slice (some ⟨v5.heap.size + 1 + 1, 0, none⟩) 1 1] 28)).alloc (.cells #[.slice none 0 0] 39)).drew := bdrew (balloc (balloc (balloc (Below.refl _ _) _) _) _)
      refine hK.out _ _ ⟨kept g0 hq9, kept g1 hq9, kept g2 hq9, kept g3 hq9⟩ (fun hHeld => ?_)
      clear hK K
      refine wpAnyH_done (by kernel_rfl) ?_ _
      have xX : Bx (((v5.alloc (.cells #[.int .i64 0, .int .u64 (nil0 : Int), .int .u64 0, .int .i64 0] 45)).alloc (.cells #[.int .i64 most, .slice none 0 0, .int .i64 ba, .int .i64 ev, .int .i64 0, .slice (some ⟨v5.heap.size, 0, none⟩) 1 1, .slice (some ⟨v5.heap.size + 1 + 1, 0, none⟩) 1 1] 28)).alloc (.cells #[.slice none 0 0] 39)).drew (v5.heap.size + 1) [.int .i64 most, .slice none 0 0, .int .i64 ba, .int .i64 ev, .int .i64 0, .slice (some ⟨v5.heap.size, 0, none⟩) 1 1, .slice (some ⟨v5.heap.size + 1 + 1, 0, none⟩) 1 1] := ((Bx.new (v5.alloc (.cells #[.int .i64 0, .int .u64 (nil0 : Int), .int .u64 0, .int .i64 0] 45)) (v5.heap.size + 1) (by simp) _ [.int .i64 most, .slice none 0 0, .int .i64 ba, .int .i64 ev, .int .i64 0, .slice (some ⟨v5.heap.size, 0, none⟩) 1 1, .slice (some ⟨v5.heap.size + 1 + 1, 0, none⟩) 1 1] 28 rfl).alloc (.cells #[.slice none 0 0] 39)).drewN 1
      have hX : Row (((v5.alloc (.cells #[.int .i64 0, .int .u64 (nil0 : Int), .int .u64 0, .int .i64 0] 45)).alloc (.cells #[.int .i64 most, .slice none 0 0, .int .i64 ba, .int .i64 ev, .int .i64 0, .slice (some ⟨v5.heap.size, 0, none⟩) 1 1, .slice (some ⟨v5.heap.size + 1 + 1, 0, none⟩) 1 1] 28)).alloc (.cells #[.slice none 0 0] 39)).drew (some ⟨v5.heap.size, 0, none⟩) (hcells [(0, nil0, 0, 0)]) := (((row_new v5 (hcells [(0, nil0, 0, 0)]) 45 (v5.heap.size) rfl).alloc (.cells #[.int .i64 most, .slice none 0 0, .int .i64 ba, .int .i64 ev, .int .i64 0, .slice (some ⟨v5.heap.size, 0, none⟩) 1 1, .slice (some ⟨v5.heap.size + 1 + 1, 0, none⟩) 1 1] 28)).alloc (.cells #[.slice none 0 0] 39)).drewN 1
      have bX : Row (((v5.alloc (.cells #[.int .i64 0, .int .u64 (nil0 : Int), .int .u64 0, .int .i64 0] 45)).alloc (.cells #[.int .i64 most, .slice none 0 0, .int .i64 ba, .int .i64 ev, .int .i64 0, .slice (some ⟨v5.heap.size, 0, none⟩) 1 1, .slice (some ⟨v5.heap.size + 1 + 1, 0, none⟩) 1 1] 28)).alloc (.cells #[.slice none 0 0] 39)).drew (some ⟨v5.heap.size + 1 + 1, 0, none⟩) (bkcells [(none, 0, [])]) := (row_new ((v5.alloc (.cells #[.int .i64 0, .int .u64 (nil0 : Int), .int .u64 0, .int .i64 0] 45)).alloc (.cells #[.int .i64 most, .slice none 0 0, .int .i64 ba, .int .i64 ev, .int .i64 0, .slice (some ⟨v5.heap.size, 0, none⟩) 1 1, .slice (some ⟨v5.heap.size + 1 + 1, 0, none⟩) 1 1] 28)) (bkcells [(none, 0, [])]) 39 (v5.heap.size + 1 + 1) (by simp)).drewN 1
      have zX := z3.below hq9
      have hbX := below_chain hb03 hq9
      have hcX := xX.lt
      have hvz := z3.lt
      have BX : Books (((v5.alloc (.cells #[.int .i64 0, .int .u64 (nil0 : Int), .int .u64 0, .int .i64 0] 45)).alloc (.cells #[.int .i64 most, .slice none 0 0, .int .i64 ba, .int .i64 ev, .int .i64 0, .slice (some ⟨v5.heap.size, 0, none⟩) 1 1, .slice (some ⟨v5.heap.size + 1 + 1, 0, none⟩) 1 1] 28)).alloc (.cells #[.slice none 0 0] 39)).drew (some ⟨v5.heap.size + 1 + 1, 0, none⟩) [(none, 0, [])] := ⟨bX, fun p hp => by rw [List.mem_singleton.1 hp]; exact Row.nil_ _ _⟩
      clear hq9 z3 hb03 g0 g1 g2 g3 bX hHeld
      generalize (((v5.alloc (.cells #[.int .i64 0, .int .u64 (nil0 : Int), .int .u64 0, .int .i64 0] 45)).alloc (.cells #[.int .i64 most, .slice none 0 0, .int .i64 ba, .int .i64 ev, .int .i64 0, .slice (some ⟨v5.heap.size, 0, none⟩) 1 1, .slice (some ⟨v5.heap.size + 1 + 1, 0, none⟩) 1 1] 28)).alloc (.cells #[.slice none 0 0] 39)).drew = v9 at *
      obtain ⟨a0, a1, a2, a3, a4, a5, a6⟩ := xX.get7
      go_wp2_with fail
      refine (hCk _ _ _ hX BX).out.mono ?_
      rintro xx v10 ⟨rfl, hb10⟩
      have z10 := zX.below hb10
      have hb010 := below_chain hbX hb10
      have hX10 := hX.below hb10
      have BX10 := BX.below hb10
      have x10 := xX.below hb10
      clear a0 a1 a2 a3 a4 a5 a6 zX hbX hb10 hX BX xX hCk
      obtain ⟨a0, a1, a2, a3, a4, a5, a6⟩ := x10.get7
      have z9 : Bx (((((((v10.setCell ⟨w.heap.size, 0, none⟩ (.int .i64 most)).setCell ⟨w.heap.size, 1, none⟩ (.slice none 0 0)).setCell ⟨w.heap.size, 2, none⟩ (.int .i64 ba)).setCell ⟨w.heap.size, 3, none⟩ (.int .i64 ev)).setCell ⟨w.heap.size, 4, none⟩ (.int .i64 0)).setCell ⟨w.heap.size, 5, none⟩ (.slice (some ⟨v5.heap.size, 0, none⟩) 1 1)).setCell ⟨w.heap.size, 6, none⟩ (.slice (some ⟨v5.heap.size + 1 + 1, 0, none⟩) 1 1)) (w.heap.size) [.int .i64 most, .slice none 0 0, .int .i64 ba, .int .i64 ev, .int .i64 0, .slice (some ⟨v5.heap.size, 0, none⟩) 1 1, .slice (some ⟨v5.heap.size + 1 + 1, 0, none⟩) 1 1] := (((((((z10.set 0 (.int .i64 most)).set 1 (.slice none 0 0)).set 2 (.int .i64 ba)).set 3 (.int .i64 ev)).set 4 (.int .i64 0)).set 5 (.slice (some ⟨v5.heap.size, 0, none⟩) 1 1)).set 6 (.slice (some ⟨v5.heap.size + 1 + 1, 0, none⟩) 1 1))
      have hb9 := Lib.hid (((((((hb010.setCell (p := ⟨w.heap.size, 0, none⟩) (by omega : w.heap.size ≤ w.heap.size) (.int .i64 most)).setCell (p := ⟨w.heap.size, 1, none⟩) (by omega : w.heap.size ≤ w.heap.size) (.slice none 0 0)).setCell (p := ⟨w.heap.size, 2, none⟩) (by omega : w.heap.size ≤ w.heap.size) (.int .i64 ba)).setCell (p := ⟨w.heap.size, 3, none⟩) (by omega : w.heap.size ≤ w.heap.size) (.int .i64 ev)).setCell (p := ⟨w.heap.size, 4, none⟩) (by omega : w.heap.size ≤ w.heap.size) (.int .i64 0)).setCell (p := ⟨w.heap.size, 5, none⟩) (by omega : w.heap.size ≤ w.heap.size) (.slice (some ⟨v5.heap.size, 0, none⟩) 1 1)).setCell (p := ⟨w.heap.size, 6, none⟩) (by omega : w.heap.size ≤ w.heap.size) (.slice (some ⟨v5.heap.size + 1 + 1, 0, none⟩) 1 1))
      have hX9 := Lib.hid ((Row.setNew (Row.setNew (Row.setNew (Row.setNew (Row.setNew (Row.setNew (Row.setNew hX10 (by omega : w.heap.size ≠ v5.heap.size) 0 (.int .i64 most)) (by omega : w.heap.size ≠ v5.heap.size) 1 (.slice none 0 0)) (by omega : w.heap.size ≠ v5.heap.size) 2 (.int .i64 ba)) (by omega : w.heap.size ≠ v5.heap.size) 3 (.int .i64 ev)) (by omega : w.heap.size ≠ v5.heap.size) 4 (.int .i64 0)) (by omega : w.heap.size ≠ v5.heap.size) 5 (.slice (some ⟨v5.heap.size, 0, none⟩) 1 1)) (by omega : w.heap.size ≠ v5.heap.size) 6 (.slice (some ⟨v5.heap.size + 1 + 1, 0, none⟩) 1 1)))
      have BX9 := Lib.hid ((Books.setNew (Books.setNew (Books.setNew (Books.setNew (Books.setNew (Books.setNew (Books.setNew BX10 (by omega : w.heap.size ≠ v5.heap.size + 1 + 1) 0 (.int .i64 most)) (by omega : w.heap.size ≠ v5.heap.size + 1 + 1) 1 (.slice none 0 0)) (by omega : w.heap.size ≠ v5.heap.size + 1 + 1) 2 (.int .i64 ba)) (by omega : w.heap.size ≠ v5.heap.size + 1 + 1) 3 (.int .i64 ev)) (by omega : w.heap.size ≠ v5.heap.size + 1 + 1) 4 (.int .i64 0)) (by omega : w.heap.size ≠ v5.heap.size + 1 + 1) 5 (.slice (some ⟨v5.heap.size, 0, none⟩) 1 1)) (by omega : w.heap.size ≠ v5.heap.size + 1 + 1) 6 (.slice (some ⟨v5.heap.size + 1 + 1, 0, none⟩) 1 1)))
      obtain ⟨b0, b1, b2, b3, b4, b5, b6⟩ := z10.get7
      have g0 := z10.f 0 (by simp)
      have g1 := z10.f 1 (by simp)
      have g2 := z10.f 2 (by simp)
      have g3 := z10.f 3 (by simp)
      have g4 := z10.f 4 (by simp)
      have g5 := z10.f 5 (by simp)
      have g6 := z10.f 6 (by simp)
      clear z10 x10
      go_wp2
      generalize (((((((v10.setCell ⟨w.heap.size, 0, none⟩ (.int .i64 most)).setCell ⟨w.heap.size, 1, none⟩ (.slice none 0 0)).setCell ⟨w.heap.size, 2, none⟩ (.int .i64 ba)).setCell ⟨w.heap.size, 3, none⟩ (.int .i64 ev)).setCell ⟨w.heap.size, 4, none⟩ (.int .i64 0)).setCell ⟨w.heap.size, 5, none⟩ (.slice (some ⟨v5.heap.size, 0, none⟩) 1 1)).setCell ⟨w.heap.size, 6, none⟩ (.slice (some ⟨v5.heap.size + 1 + 1, 0, none⟩) 1 1)) = w9 at *
      obtain ⟨r0, r1, r2, r3, r4, r5, r6⟩ := z9.get7
      refine bodyPost_ret (v := .tuple #[.agg #[.int .i64 most, .slice none 0 0, .int .i64 ba, .int .i64 ev, .int .i64 0, .slice (some ⟨v5.heap.size, 0, none⟩) 1 1, .slice (some ⟨v5.heap.size + 1 + 1, 0, none⟩) 1 1], .int .i64 0]) ?_ rfl ⟨_, _, rfl, hX9.out, BX9.out, hb9.out⟩
      rw [results_cell_tmp rfl]
      go_simp
  · skip
    go_simp
    have hq0 : Below v5.heap.size v5 (v5.alloc (.cells #[.slice none 0 0] 39)).drew := bdrew (balloc (Below.refl _ _) _)
    refine hK.out _ _ ⟨kept g0 hq0, kept g1 hq0, kept g2 hq0, kept g3 hq0⟩ (fun hHeld => ?_)
    clear hK K
    refine wpAnyH_ready (rs := [5, 8]) (by kernel_rfl) (by simp) ?_
    refine AllReadyH.cons rfl (fun K hK => ?_) (AllReadyH.cons rfl (fun K hK => ?_) (AllReadyH.nil))
    · skip
      go_simp
      have hq1 : Below v5.heap.size v5 ((v5.alloc (.cells #[.slice none 0 0] 39)).alloc (.cells #[.int .i64 0, .int .u64 (nil0 : Int), .int .u64 0, .int .i64 0] 45)).drew := bdrew (balloc (balloc (Below.refl _ _) _) _)
      refine hK.out _ _ ⟨kept g0 hq1, kept g1 hq1, kept g2 hq1, kept g3 hq1⟩ (fun hHeld => ?_)
      clear hK K
      refine wpAnyH_take (i := 7) (v := ?_) rfl (by kernel_rfl) (by kernel_rfl) (by kernel_rfl) (fun _ _ _ h => h) (Or.inl ⟨by rfl, ?_⟩) (by assumption) ?_
      rotate_left
      · intro wt hSt
        try dsimp only at hSt
        first | (go_simp; done) | (go_simp; with_reducible rfl)
      simp only [Act.put, List.setIfInBounds_toArray, List.set_cons_zero, List.set_cons_succ, List.getElem_toArray, List.getElem_cons_zero, List.getElem_cons_succ]
      refine wpAnyH_ready (rs := [8]) (by kernel_rfl) (by simp) ?_
      refine AllReadyH.cons rfl (fun K hK => ?_) (AllReadyH.nil)
      go_simp
      have hq2 : Below v5.heap.size v5 (((v5.alloc (.cells #[.slice none 0 0] 39)).alloc (.cells #[.int .i64 0, .int .u64 (nil0 : Int), .int .u64 0, .int .i64 0] 45)).alloc (.cells #[.int .i64 0, .slice none 0 0, .int .i64 0, .int .i64 0, .int .i64 0, .slice none 0 0, .slice none 0 0] 28)).drew := bdrew (balloc (balloc (balloc (Below.refl _ _) _) _) _)
      refine hK.out _ _ ⟨kept g0 hq2, kept g1 hq2, kept g2 hq2, kept g3 hq2⟩ (fun hHeld => ?_)
      clear hK K
      refine wpAnyH_ready (rs := [9]) (by kernel_rfl) (by simp) ?_
      refine AllReadyH.cons rfl (fun K hK => ?_) (AllReadyH.nil)
      go_simp
      have hq9 : Below v5.heap.size v5 (((v5.alloc (.cells #[.slice none 0 0] 39)).alloc (.cells #[.int .i64 0, .int .u64 (nil0 : Int), .int .u64 0, .int .i64 0] 45)).alloc (.cells #[.int .i64 most, .slice none 0 0, .int .i64 ba, .int .i64 ev, .int .i64 0, .slice (some ⟨v5.heap.size + 1, 0, none⟩) 1 1, .slice (some ⟨v5.heap.size, 0, none⟩) 1 1] 28)).drew := bdrew (balloc (balloc (balloc (Below.refl _ _) _) _) _)
      refine hK.out _ _ ⟨kept g0 hq9, kept g1 hq9, kept g2 hq9, kept g3 hq9⟩ (fun hHeld => ?_)
      clear hK K
      refine wpAnyH_done (by kernel_rfl) ?_ _
      have xX : Bx (((v5.alloc (.cells #[.slice none 0 0] 39)).alloc (.cells #[.int .i64 0, .int .u64 (nil0 : Int), .int .u64 0, .int .i64 0] 45)).alloc (.cells #[.int .i64 most, .slice none 0 0, .int .i64 ba, .int .i64 ev, .int .i64 0, .slice (some ⟨v5.heap.size + 1, 0, none⟩) 1 1, .slice (some ⟨v5.heap.size, 0, none⟩) 1 1] 28)).drew (v5.heap.size + 1 + 1) [.int .i64 most, .slice none 0 0, .int .i64 ba, .int .i64 ev, .int .i64 0, .slice (some ⟨v5.heap.size + 1, 0, none⟩) 1 1, .slice (some ⟨v5.heap.size, 0, none⟩) 1 1] := (Bx.new ((v5.alloc (.cells #[.slice none 0 0] 39)).alloc (.cells #[.int .i64 0, .int .u64 (nil0 : Int), .int .u64 0, .int .i64 0] 45)) (v5.heap.size + 1 + 1) (by simp) _ [.int .i64 most, .slice none 0 0, .int .i64 ba, .int .i64 ev, .int .i64 0, .slice (some ⟨v5.heap.size + 1, 0, none⟩) 1 1, .slice (some ⟨v5.heap.size, 0, none⟩) 1 1] 28 rfl).drewN 1
      have hX : Row (((v5.alloc (.cells #[.slice none 0 0] 39)).alloc (.cells #[.int .i64 0, .int .u64 (nil0 : Int), .int .u64 0, .int .i64 0] 45)).alloc (.cells #[.int .i64 most, .slice none 0 0, .int .i64 ba, .int .i64 ev, .int .i64 0, .slice (some ⟨v5.heap.size + 1, 0, none⟩) 1 1, .slice (some ⟨v5.heap.size, 0, none⟩) 1 1] 28)).drew (some ⟨v5.heap.size + 1, 0, none⟩) (hcells [(0, nil0, 0, 0)]) := ((row_new (v5.alloc (.cells #[.slice none 0 0] 39)) (hcells [(0, nil0, 0, 0)]) 45 (v5.heap.size + 1) (by simp)).alloc (.cells #[.int .i64 most, .slice none 0 0, .int .i64 ba, .int .i64 ev, .int .i64 0, .slice (some ⟨v5.heap.size + 1, 0, none⟩) 1 1, .slice (some ⟨v5.heap.size, 0, none⟩) 1 1] 28)).drewN 1
      have bX : Row (((v5.alloc (.cells #[.slice none 0 0] 39)).alloc (.cells #[.int .i64 0, .int .u64 (nil0 : Int), .int .u64 0, .int .i64 0] 45)).alloc (.cells #[.int .i64 most, .slice none 0 0, .int .i64 ba, .int .i64 ev, .int .i64 0, .slice (some ⟨v5.heap.size + 1, 0, none⟩) 1 1, .slice (some ⟨v5.heap.size, 0, none⟩) 1 1] 28)).drew (some ⟨v5.heap.size, 0, none⟩) (bkcells [(none, 0, [])]) := (((row_new v5 (bkcells [(none, 0, [])]) 39 (v5.heap.size) rfl).alloc (.cells #[.int .i64 0, .int .u64 (nil0 : Int), .int .u64 0, .int .i64 0] 45)).alloc (.cells #[.int .i64 most, .slice none 0 0, .int .i64 ba, .int .i64 ev, .int .i64 0, .slice (some ⟨v5.heap.size + 1, 0, none⟩) 1 1, .slice (some ⟨v5.heap.size, 0, none⟩) 1 1] 28)).drewN 1
      have zX := z3.below hq9
      have hbX := below_chain hb03 hq9
      have hcX := xX.lt
      have hvz := z3.lt
      have BX : Books (((v5.alloc (.cells #[.slice none 0 0] 39)).alloc (.cells #[.int .i64 0, .int .u64 (nil0 : Int), .int .u64 0, .int .i64 0] 45)).alloc (.cells #[.int .i64 most, .slice none 0 0, .int .i64 ba, .int .i64 ev, .int .i64 0, .slice (some ⟨v5.heap.size + 1, 0, none⟩) 1 1, .slice (some ⟨v5.heap.size, 0, none⟩) 1 1] 28)).drew (some ⟨v5.heap.size, 0, none⟩) [(none, 0, [])] := ⟨bX, fun p hp => by rw [List.mem_singleton.1 hp]; exact Row.nil_ _ _⟩
      clear hq9 z3 hb03 g0 g1 g2 g3 bX hHeld
      generalize (((v5.alloc (.cells #[.slice none 0 0] 39)).alloc (.cells #[.int .i64 0, .int .u64 (nil0 : Int), .int .u64 0, .int .i64 0] 45)).alloc (.cells #[.int .i64 most, .slice none 0 0, .int .i64 ba, .int .i64 ev, .int .i64 0, .slice (some ⟨v5.heap.size + 1, 0, none⟩) 1 1, .slice (some ⟨v5.heap.size, 0, none⟩) 1 1] 28)).drew = v9 at *
      obtain ⟨a0, a1, a2, a3, a4, a5, a6⟩ := xX.get7
      go_wp2_with fail
      refine (hCk _ _ _ hX BX).out.mono ?_
      rintro xx v10 ⟨rfl, hb10⟩
      have z10 := zX.below hb10
      have hb010 := below_chain hbX hb10
      have hX10 := hX.below hb10
      have BX10 := BX.below hb10
      have x10 := xX.below hb10
      clear a0 a1 a2 a3 a4 a5 a6 zX hbX hb10 hX BX xX hCk
      obtain ⟨a0, a1, a2, a3, a4, a5, a6⟩ := x10.get7
      have z9 : Bx (((((((v10.setCell ⟨w.heap.size, 0, none⟩ (.int .i64 most)).setCell ⟨w.heap.size, 1, none⟩ (.slice none 0 0)).setCell ⟨w.heap.size, 2, none⟩ (.int .i64 ba)).setCell ⟨w.heap.size, 3, none⟩ (.int .i64 ev)).setCell ⟨w.heap.size, 4, none⟩ (.int .i64 0)).setCell ⟨w.heap.size, 5, none⟩ (.slice (some ⟨v5.heap.size + 1, 0, none⟩) 1 1)).setCell ⟨w.heap.size, 6, none⟩ (.slice (some ⟨v5.heap.size, 0, none⟩) 1 1)) (w.heap.size) [.int .i64 most, .slice none 0 0, .int .i64 ba, .int .i64 ev, .int .i64 0, .slice (some ⟨v5.heap.size + 1, 0, none⟩) 1 1, .slice (some ⟨v5.heap.size, 0, none⟩) 1 1] := (((((((z10.set 0 (.int .i64 most)).set 1 (.slice none 0 0)).set 2 (.int .i64 ba)).set 3 (.int .i64 ev)).set 4 (.int .i64 0)).set 5 (.slice (some ⟨v5.heap.size + 1, 0, none⟩) 1 1)).set 6 (.slice (some ⟨v5.heap.size, 0, none⟩) 1 1))
      have hb9 := Lib.hid (((((((hb010.setCell (p := ⟨w.heap.size, 0, none⟩) (by omega : w.heap.size ≤ w.heap.size) (.int .i64 most)).setCell (p := ⟨w.heap.size, 1, none⟩) (by omega : w.heap.size ≤ w.heap.size) (.slice none 0 0)).setCell (p := ⟨w.heap.size, 2, none⟩) (by omega : w.heap.size ≤ w.heap.size) (.int .i64 ba)).setCell (p := ⟨w.heap.size, 3, none⟩) (by omega : w.heap.size ≤ w.heap.size) (.int .i64 ev)).setCell (p := ⟨w.heap.size, 4, none⟩) (by omega : w.heap.size ≤ w.heap.size) (.int .i64 0)).setCell (p := ⟨w.heap.size, 5, none⟩) (by omega : w.heap.size ≤ w.heap.size) (.slice (some ⟨v5.heap.size + 1, 0, none⟩) 1 1)).setCell (p := ⟨w.heap.size, 6, none⟩) (by omega : w.heap.size ≤ w.heap.size) (.slice (some ⟨v5.heap.size, 0, none⟩) 1 1))
      have hX9 := Lib.hid ((Row.setNew (Row.setNew (Row.setNew (Row.setNew (Row.setNew (Row.setNew (Row.setNew hX10 (by omega : w.heap.size ≠ v5.heap.size + 1) 0 (.int .i64 most)) (by omega : w.heap.size ≠ v5.heap.size + 1) 1 (.slice none 0 0)) (by omega : w.heap.size ≠ v5.heap.size + 1) 2 (.int .i64 ba)) (by omega : w.heap.size ≠ v5.heap.size + 1) 3 (.int .i64 ev)) (by omega : w.heap.size ≠ v5.heap.size + 1) 4 (.int .i64 0)) (by omega : w.heap.size ≠ v5.heap.size + 1) 5 (.slice (some ⟨v5.heap.size + 1, 0, none⟩) 1 1)) (by omega : w.heap.size ≠ v5.heap.size + 1) 6 (.slice (some ⟨v5.heap.size, 0, none⟩) 1 1)))
      have BX9 := Lib.hid ((Books.setNew (Books.setNew (Books.setNew (Books.setNew (Books.setNew (Books.setNew (Books.setNew BX10 (by omega : w.heap.size ≠ v5.heap.size) 0 (.int .i64 most)) (by omega : w.heap.size ≠ v5.heap.size) 1 (.slice none 0 0)) (by omega : w.heap.size ≠ v5.heap.size) 2 (.int .i64 ba)) (by omega : w.heap.size ≠ v5.heap.size) 3 (.int .i64 ev)) (by omega : w.heap.size ≠ v5.heap.size) 4 (.int .i64 0)) (by omega : w.heap.size ≠ v5.heap.size) 5 (.slice (some ⟨v5.heap.size + 1, 0, none⟩) 1 1)) (by omega : w.heap.size ≠ v5.heap.size) 6 (.slice (some ⟨v5.heap.size, 0, none⟩) 1 1)))
      obtain ⟨b0, b1, b2, b3, b4, b5, b6⟩ := z10.get7
      have g0 := z10.f 0 (by simp)
      have g1 := z10.f 1 (by simp)
      have g2 := z10.f 2 (by simp)
      have g3 := z10.f 3 (by simp)
      have g4 := z10.f 4 (by simp)
      have g5 := z10.f 5 (by simp)
      have g6 := z10.f 6 (by simp)
      clear z10 x10
      go_wp2
      generalize (((((((v10.setCell ⟨w.heap.size, 0, none⟩ (.int .i64 most)).setCell ⟨w.heap.size, 1, none⟩ (.slice none 0 0)).setCell ⟨w.heap.size, 2, none⟩ (.int .i64 ba)).setCell ⟨w.heap.size, 3, none⟩ (.int .i64 ev)).setCell ⟨w.heap.size, 4, none⟩ (.int .i64 0)).setCell ⟨w.heap.size, 5, none⟩ (.slice (some ⟨v5.heap.size + 1, 0, none⟩) 1 1)).setCell ⟨w.heap.size, 6, none⟩ (.slice (some ⟨v5.heap.size, 0, none⟩) 1 1)) = w9 at *
      obtain ⟨r0, r1, r2, r3, r4, r5, r6⟩ := z9.get7
      refine bodyPost_ret (v := .tuple #[.agg #[.int .i64 most, .slice none 0 0, .int .i64 ba, .int .i64 ev, .int .i64 0, .slice (some ⟨v5.heap.size + 1, 0, none⟩) 1 1, .slice (some ⟨v5.heap.size, 0, none⟩) 1 1], .int .i64 0]) ?_ rfl ⟨_, _, rfl, hX9.out, BX9.out, hb9.out⟩
      rw [results_cell_tmp rfl]
      go_simp
    · skip
      go_simp
      have hq1 : Below v5.heap.size v5 ((v5.alloc (.cells #[.slice none 0 0] 39)).alloc (.cells #[.int .i64 0, .slice none 0 0, .int .i64 0, .int .i64 0, .int .i64 0, .slice none 0 0, .slice none 0 0] 28)).drew := bdrew (balloc (balloc (Below.refl _ _) _) _)
      refine hK.out _ _ ⟨kept g0 hq1, kept g1 hq1, kept g2 hq1, kept g3 hq1⟩ (fun hHeld => ?_)
      clear hK K
      refine wpAnyH_ready (rs := [5]) (by kernel_rfl) (by simp) ?_
      refine AllReadyH.cons rfl (fun K hK => ?_) (AllReadyH.nil)
      go_simp
      have hq2 : Below v5.heap.size v5 (((v5.alloc (.cells #[.slice none 0 0] 39)).alloc (.cells #[.int .i64 0, .slice none 0 0, .int .i64 0, .int .i64 0, .int .i64 0, .slice none 0 0, .slice none 0 0] 28)).alloc (.cells #[.int .i64 0, .int .u64 (nil0 : Int), .int .u64 0, .int .i64 0] 45)).drew := bdrew (balloc (balloc (balloc (Below.refl _ _) _) _) _)
      refine hK.out _ _ ⟨kept g0 hq2, kept g1 hq2, kept g2 hq2, kept g3 hq2⟩ (fun hHeld => ?_)
      clear hK K
      refine wpAnyH_take (i := 7) (v := ?_) rfl (by kernel_rfl) (by kernel_rfl) (by kernel_rfl) (fun _ _ _ h => h) (Or.inl ⟨by rfl, ?_⟩) (by assumption) ?_
      rotate_left
      · intro wt hSt
        try dsimp only at hSt
        first | (go_simp; done) | (go_simp; with_reducible rfl)
      simp only [Act.put, List.setIfInBounds_toArray, List.set_cons_zero, List.set_cons_succ, List.getElem_toArray, List.getElem_cons_zero, List.getElem_cons_succ]
      refine wpAnyH_ready (rs := [9]) (by kernel_rfl) (by simp) ?_
      refine AllReadyH.cons rfl (fun K hK => ?_) (AllReadyH.nil)
      go_simp
      have hq9 : Below v5.heap.size v5 (((v5.alloc (.cells #[.slice none 0 0] 39)).alloc (.cells #[.int .i64 most, .slice none 0 0, .int .i64 ba, .int .i64 ev, .int .i64 0, .slice (some ⟨v5.heap.size + 1 + 1, 0, none⟩) 1 1, .slice (some ⟨v5.heap.size, 0, none⟩) 1 1] 28)).alloc (.cells #[.int .i64 0, .int .u64 (nil0 : Int), .int .u64 0, .int .i64 0] 45)).drew := bdrew (balloc (balloc (balloc (Below.refl _ _) _) _) _)
      refine hK.out _ _ ⟨kept g0 hq9, kept g1 hq9, kept g2 hq9, kept g3 hq9⟩ (fun hHeld => ?_)
      clear hK K
      refine wpAnyH_done (by kernel_rfl) ?_ _
      have xX : Bx (((v5.alloc (.cells #[.slice none 0 0] 39)).alloc (.cells #[.int .i64 most, .slice none 0 0, .int .i64 ba, .int .i64 ev, .int .i64 0, .slice (some ⟨v5.heap.size + 1 + 1, 0, none⟩) 1 1, .slice (some ⟨v5.heap.size, 0, none⟩) 1 1] 28)).alloc (.cells #[.int .i64 0, .int .u64 (nil0 : Int), .int .u64 0, .int .i64 0] 45)).drew (v5.heap.size + 1) [.int .i64 most, .slice none 0 0, .int .i64 ba, .int .i64 ev, .int .i64 0, .slice (some ⟨v5.heap.size + 1 + 1, 0, none⟩) 1 1, .slice (some ⟨v5.heap.size, 0, none⟩) 1 1] := ((Bx.new (v5.alloc (.cells #[.slice none 0 0] 39)) (v5.heap.size + 1) (by simp) _ [.int .i64 most, .slice none 0 0, .int .i64 ba, .int .i64 ev, .int .i64 0, .slice (some ⟨v5.heap.size + 1 + 1, 0, none⟩) 1 1, .slice (some ⟨v5.heap.size, 0, none⟩) 1 1] 28 rfl).alloc (.cells #[.int .i64 0, .int .u64 (nil0 : Int), .int .u64 0, .int .i64 0] 45)).drewN 1
      have hX : Row (((v5.alloc (.cells #[.slice none 0 0] 39)).alloc (.cells #[.int .i64 most, .slice none 0 0, .int .i64 ba, .int .i64 ev, .int .i64 0, .slice (some ⟨v5.heap.size + 1 + 1, 0, none⟩) 1 1, .slice (some ⟨v5.heap.size, 0, none⟩) 1 1] 28)).alloc (.cells #[.int .i64 0, .int .u64 (nil0 : Int), .int .u64 0, .int .i64 0] 45)).drew (some ⟨v5.heap.size + 1 + 1, 0, none⟩) (hcells [(0, nil0, 0, 0)]) := (row_new ((v5.alloc (.cells #[.slice none 0 0] 39)).alloc (.cells #[.int .i64 most, .slice none 0 0, .int .i64 ba, .int .i64 ev, .int .i64 0, .slice (some ⟨v5.heap.size + 1 + 1, 0, none⟩) 1 1, .slice (some ⟨v5.heap.size, 0, none⟩) 1 1] 28)) (hcells [(0, nil0, 0, 0)]) 45 (v5.heap.size + 1 + 1) (by simp)).drewN 1
      have bX : Row (((v5.alloc (.cells #[.slice none 0 0] 39)).alloc (.cells #[.int .i64 most, .slice none 0 0, .int .i64 ba, .int .i64 ev, .int .i64 0, .slice (some ⟨v5.heap.size + 1 + 1, 0, none⟩) 1 1, .slice (some ⟨v5.heap.size, 0, none⟩) 1 1] 28)).alloc (.cells #[.int .i64 0, .int .u64 (nil0 : Int), .int .u64 0, .int .i64 0] 45)).drew (some ⟨v5.heap.size, 0, none⟩) (bkcells [(none, 0, [])]) := (((row_new v5 (bkcells [(none, 0, [])]) 39 (v5.heap.size) rfl).alloc (.cells #[.int .i64 most, .slice none 0 0, .int .i64 ba, .int .i64 ev, .int .i64 0, .slice (some ⟨v5.heap.size + 1 + 1, 0, none⟩) 1 1, .slice (some ⟨v5.heap.size, 0, none⟩) 1 1] 28)).alloc (.cells #[.int .i64 0, .int .u64 (nil0 : Int), .int .u64 0, .int .i64 0] 45)).drewN 1
      have zX := z3.below hq9
      have hbX := below_chain hb03 hq9
      have hcX := xX.lt
      have hvz := z3.lt
      have BX : Books (((v5.alloc (.cells #[.slice none 0 0] 39)).alloc (.cells #[.int .i64 most, .slice none 0 0, .int .i64 ba, .int .i64 ev, .int .i64 0, .slice (some ⟨v5.heap.size + 1 + 1, 0, none⟩) 1 1, .slice (some ⟨v5.heap.size, 0, none⟩) 1 1] 28)).alloc (.cells #[.int .i64 0, .int .u64 (nil0 : Int), .int .u64 0, .int .i64 0] 45)).drew (some ⟨v5.heap.size, 0, none⟩) [(none, 0, [])] := ⟨bX, fun p hp => by rw [List.mem_singleton.1 hp]; exact Row.nil_ _ _⟩
      clear hq9 z3 hb03 g0 g1 g2 g3 bX hHeld
      generalize (((v5.alloc (.cells #[.slice none 0 0] 39)).alloc (.cells #[.int .i64 most, .slice none 0 0, .int .i64 ba, .int .i64 ev, .int .i64 0, .slice (some ⟨v5.heap.size + 1 + 1, 0, none⟩) 1 1, .slice (some ⟨v5.heap.size, 0, none⟩) 1 1] 28)).alloc (.cells #[.int .i64 0, .int .u64 (nil0 : Int), .int .u64 0, .int .i64 0] 45)).drew = v9 at *
      obtain ⟨a0, a1, a2, a3, a4, a5, a6⟩ := xX.get7
      go_wp2_with fail
      refine (hCk _ _ _ hX BX).out.mono ?_
      rintro xx v10 ⟨rfl, hb10⟩
      have z10 := zX.below hb10
      have hb010 := below_chain hbX hb10
      have hX10 := hX.below hb10
      have BX10 := BX.below hb10
      have x10 := xX.below hb10
      clear a0 a1 a2 a3 a4 a5 a6 zX hbX hb10 hX BX xX hCk
      obtain ⟨a0, a1, a2, a3, a4, a5, a6⟩ := x10.get7
      have z9 : Bx (((((((v10.setCell ⟨w.heap.size, 0, none⟩ (.int .i64 most)).setCell ⟨w.heap.size, 1, none⟩ (.slice none 0 0)).setCell ⟨w.heap.size, 2, none⟩ (.int .i64 ba)).setCell ⟨w.heap.size, 3, none⟩ (.int .i64 ev)).setCell ⟨w.heap.size, 4, none⟩ (.int .i64 0)).setCell ⟨w.heap.size, 5, none⟩ (.slice (some ⟨v5.heap.size + 1 + 1, 0, none⟩) 1 1)).setCell ⟨w.heap.size, 6, none⟩ (.slice (some ⟨v5.heap.size, 0, none⟩) 1 1)) (w.heap.size) [.int .i64 most, .slice none 0 0, .int .i64 ba, .int .i64 ev, .int .i64 0, .slice (some ⟨v5.heap.size + 1 + 1, 0, none⟩) 1 1, .slice (some ⟨v5.heap.size, 0, none⟩) 1 1] := (((((((z10.set 0 (.int .i64 most)).set 1 (.slice none 0 0)).set 2 (.int .i64 ba)).set 3 (.int .i64 ev)).set 4 (.int .i64 0)).set 5 (.slice (some ⟨v5.heap.size + 1 + 1, 0, none⟩) 1 1)).set 6 (.slice (some ⟨v5.heap.size, 0, none⟩) 1 1))
      have hb9 := Lib.hid (((((((hb010.setCell (p := ⟨w.heap.size, 0, none⟩) (by omega : w.heap.size ≤ w.heap.size) (.int .i64 most)).setCell (p := ⟨w.heap.size, 1, none⟩) (by omega : w.heap.size ≤ w.heap.size) (.slice none 0 0)).setCell (p := ⟨w.heap.size, 2, none⟩) (by omega : w.heap.size ≤ w.heap.size) (.int .i64 ba)).setCell (p := ⟨w.heap.size, 3, none⟩) (by omega : w.heap.size ≤ w.heap.size) (.int .i64 ev)).setCell (p := ⟨w.heap.size, 4, none⟩) (by omega : w.heap.size ≤ w.heap.size) (.int .i64 0)).setCell (p := ⟨w.heap.size, 5, none⟩) (by omega : w.heap.size ≤ w.heap.size) (.slice (some ⟨v5.heap.size + 1 + 1, 0, none⟩) 1 1)).setCell (p := ⟨w.heap.size, 6, none⟩) (by omega : w.heap.size ≤ w.heap.size) (.slice (some ⟨v5.heap.size, 0, none⟩) 1 1))
      have hX9 := Lib.hid ((Row.setNew (Row.setNew (Row.setNew (Row.setNew (Row.setNew (Row.setNew (Row.setNew hX10 (by omega : w.heap.size ≠ v5.heap.size + 1 + 1) 0 (.int .i64 most)) (by omega : w.heap.size ≠ v5.heap.size + 1 + 1) 1 (.slice none 0 0)) (by omega : w.heap.size ≠ v5.heap.size + 1 + 1) 2 (.int .i64 ba)) (by omega : w.heap.size ≠ v5.heap.size + 1 + 1) 3 (.int .i64 ev)) (by omega : w.heap.size ≠ v5.heap.size + 1 + 1) 4 (.int .i64 0)) (by omega : w.heap.size ≠ v5.heap.size + 1 + 1) 5 (.slice (some ⟨v5.heap.size + 1 + 1, 0, none⟩) 1 1)) (by omega : w.heap.size ≠ v5.heap.size + 1 + 1) 6 (.slice (some ⟨v5.heap.size, 0, none⟩) 1 1)))
      have BX9 := Lib.hid ((Books.setNew (Books.setNew (Books.setNew (Books.setNew (Books.setNew (Books.setNew (Books.setNew BX10 (by omega : w.heap.size ≠ v5.heap.size) 0 (.int .i64 most)) (by omega : w.heap.size ≠ v5.heap.size) 1 (.slice none 0 0)) (by omega : w.heap.size ≠ v5.heap.size) 2 (.int .i64 ba)) (by omega : w.heap.size ≠ v5.heap.size) 3 (.int .i64 ev)) (by omega : w.heap.size ≠ v5.heap.size) 4 (.int .i64 0)) (by omega : w.heap.size ≠ v5.heap.size) 5 (.slice (some ⟨v5.heap.size + 1 + 1, 0, none⟩) 1 1)) (by omega : w.heap.size ≠ v5.heap.size) 6 (.slice (some ⟨v5.heap.size, 0, none⟩) 1 1)))
      obtain ⟨b0, b1, b2, b3, b4, b5, b6⟩ := z10.get7
      have g0 := z10.f 0 (by simp)
      have g1 := z10.f 1 (by simp)
      have g2 := z10.f 2 (by simp)
      have g3 := z10.f 3 (by simp)
      have g4 := z10.f 4 (by simp)
      have g5 := z10.f 5 (by simp)
      have g6 := z10.f 6 (by simp)
      clear z10 x10
      go_wp2
      generalize (((((((v10.setCell ⟨w.heap.size, 0, none⟩ (.int .i64 most)).setCell ⟨w.heap.size, 1, none⟩ (.slice none 0 0)).setCell ⟨w.heap.size, 2, none⟩ (.int .i64 ba)).setCell ⟨w.heap.size, 3, none⟩ (.int .i64 ev)).setCell ⟨w.heap.size, 4, none⟩ (.int .i64 0)).setCell ⟨w.heap.size, 5, none⟩ (.slice (some ⟨v5.heap.size + 1 + 1, 0, none⟩) 1 1)).setCell ⟨w.heap.size, 6, none⟩ (.slice (some ⟨v5.heap.size, 0, none⟩) 1 1)) = w9 at *
      obtain ⟨r0, r1, r2, r3, r4, r5, r6⟩ := z9.get7
      refine bodyPost_ret (v := .tuple #[.agg #[.int .i64 most, .slice none 0 0, .int .i64 ba, .int .i64 ev, .int .i64 0, .slice (some ⟨v5.heap.size + 1 + 1, 0, none⟩) 1 1, .slice (some ⟨v5.heap.size, 0, none⟩) 1 1], .int .i64 0]) ?_ rfl ⟨_, _, rfl, hX9.out, BX9.out, hb9.out⟩
      rw [results_cell_tmp rfl]
      go_simp
  · skip
    go_simp
    have hq0 : Below v5.heap.size v5 (v5.alloc (.cells #[.int .i64 0, .slice none 0 0, .int .i64 0, .int .i64 0, .int .i64 0, .slice none 0 0, .slice none 0 0] 28)).drew := bdrew (balloc (Below.refl _ _) _)
    refine hK.out _ _ ⟨kept g0 hq0, kept g1 hq0, kept g2 hq0, kept g3 hq0⟩ (fun hHeld => ?_)
    clear hK K
    refine wpAnyH_ready (rs := [5, 6]) (by kernel_rfl) (by simp) ?_
    refine AllReadyH.cons rfl (fun K hK => ?_) (AllReadyH.cons rfl (fun K hK => ?_) (AllReadyH.nil))
    · skip
      go_simp
      have hq1 : Below v5.heap.size v5 ((v5.alloc (.cells #[.int .i64 0, .slice none 0 0, .int .i64 0, .int .i64 0, .int .i64 0, .slice none 0 0, .slice none 0 0] 28)).alloc (.cells #[.int .i64 0, .int .u64 (nil0 : Int), .int .u64 0, .int .i64 0] 45)).drew := bdrew (balloc (balloc (Below.refl _ _) _) _)
      refine hK.out _ _ ⟨kept g0 hq1, kept g1 hq1, kept g2 hq1, kept g3 hq1⟩ (fun hHeld => ?_)
      clear hK K
      refine wpAnyH_ready (rs := [6]) (by kernel_rfl) (by simp) ?_
      refine AllReadyH.cons rfl (fun K hK => ?_) (AllReadyH.nil)
      go_simp
      have hq2 : Below v5.heap.size v5 (((v5.alloc (.cells #[.int .i64 0, .slice none 0 0, .int .i64 0, .int .i64 0, .int .i64 0, .slice none 0 0, .slice none 0 0] 28)).alloc (.cells #[.int .i64 0, .int .u64 (nil0 : Int), .int .u64 0, .int .i64 0] 45)).alloc (.cells #[.slice none 0 0] 39)).drew := bdrew (balloc (balloc (balloc (Below.refl _ _) _) _) _)
      refine hK.out _ _ ⟨kept g0 hq2, kept g1 hq2, kept g2 hq2, kept g3 hq2⟩ (fun hHeld => ?_)
      clear hK K
      refine wpAnyH_take (i := 7) (v := ?_) rfl (by kernel_rfl) (by kernel_rfl) (by kernel_rfl) (fun _ _ _ h => h) (Or.inl ⟨by rfl, ?_⟩) (by assumption) ?_
      rotate_left
      · intro wt hSt
        try dsimp only at hSt
        first | (go_simp; done) | (go_simp; with_reducible rfl)
      simp only [Act.put, List.setIfInBounds_toArray, List.set_cons_zero, List.set_cons_succ, List.getElem_toArray, List.getElem_cons_zero, List.getElem_cons_succ]
      refine wpAnyH_ready (rs := [9]) (by kernel_rfl) (by simp) ?_
      refine AllReadyH.cons rfl (fun K hK => ?_) (AllReadyH.nil)
      go_simp
      have hq9 : Below v5.heap.size v5 (((v5.alloc (.cells #[.int .i64 most, .slice none 0 0, .int .i64 ba, .int .i64 ev, .int .i64 0, .slice (some ⟨v5.heap.size + 1, 0, none⟩) 1 1, .slice (some ⟨v5.heap.size + 1 + 1, 0, none⟩) 1 1] 28)).alloc (.cells #[.int .i64 0, .int .u64 (nil0 : Int), .int .u64 0, .int .i64 0] 45)).alloc (.cells #[.slice none 0 0] 39)).drew := bdrew (balloc (balloc (balloc (Below.refl _ _) _) _) _)
      refine hK.out _ _ ⟨kept g0 hq9, kept g1 hq9, kept g2 hq9, kept g3 hq9⟩ (fun hHeld => ?_)
      clear hK K
      refine wpAnyH_done (by kernel_rfl) ?_ _
      have xX : Bx (((v5.alloc (.cells #[.int .i64 most, .slice none 0 0, .int .i64 ba, .int .i64 ev, .int .i64 0, .slice (some ⟨v5.heap.size + 1, 0, none⟩) 1 1, .slice (some ⟨v5.heap.size + 1 + 1, 0, none⟩) 1 1] 28)).alloc (.cells #[.int .i64 0, .int .u64 (nil0 : Int), .int .u64 0, .int .i64 0] 45)).alloc (.cells #[.slice none 0 0] 39)).drew (v5.heap.size) [.int .i64 most, .slice none 0 0, .int .i64 ba, .int .i64 ev, .int .i64 0, .slice (some ⟨v5.heap.size + 1, 0, none⟩) 1 1, .slice (some ⟨v5.heap.size + 1 + 1, 0, none⟩) 1 1] := (((Bx.new v5 (v5.heap.size) rfl _ [.int .i64 most, .slice none 0 0, .int .i64 ba, .int .i64 ev, .int .i64 0, .slice (some ⟨v5.heap.size + 1, 0, none⟩) 1 1, .slice (some ⟨v5.heap.size + 1 + 1, 0, none⟩) 1 1] 28 rfl).alloc (.cells #[.int .i64 0, .int .u64 (nil0 : Int), .int .u64 0, .int .i64 0] 45)).alloc (.cells #[.slice none 0 0] 39)).drewN 1
      have hX : Row (((v5.alloc (.cells #[.int .i64 most, .slice none 0 0, .int .i64 ba, .int .i64 ev, .int .i64 0, .slice (some ⟨v5.heap.size + 1, 0, none⟩) 1 1, .slice (some ⟨v5.heap.size + 1 + 1, 0, none⟩) 1 1] 28)).alloc (.cells #[.int .i64 0, .int .u64 (nil0 : Int), .int .u64 0, .int .i64 0] 45)).alloc (.cells #[.slice none 0 0] 39)).drew (some ⟨v5.heap.size + 1, 0, none⟩) (hcells [(0, nil0, 0, 0)]) := ((row_new (v5.alloc (.cells #[.int .i64 most, .slice none 0 0, .int .i64 ba, .int .i64 ev, .int .i64 0, .slice (some ⟨v5.heap.size + 1, 0, none⟩) 1 1, .slice (some ⟨v5.heap.size + 1 + 1, 0, none⟩) 1 1] 28)) (hcells [(0, nil0, 0, 0)]) 45 (v5.heap.size + 1) (by simp)).alloc (.cells #[.slice none 0 0] 39)).drewN 1
      have bX : Row (((v5.alloc (.cells #[.int .i64 most, .slice none 0 0, .int .i64 ba, .int .i64 ev, .int .i64 0, .slice (some ⟨v5.heap.size + 1, 0, none⟩) 1 1, .slice (some ⟨v5.heap.size + 1 + 1, 0, none⟩) 1 1] 28)).alloc (.cells #[.int .i64 0, .int .u64 (nil0 : Int), .int .u64 0, .int .i64 0] 45)).alloc (.cells #[.slice none 0 0] 39)).drew (some ⟨v5.heap.size + 1 + 1, 0, none⟩) (bkcells [(none, 0, [])]) := (row_new ((v5.alloc (.cells #[.int .i64 most, .slice none 0 0, .int .i64 ba, .int .i64 ev, .int .i64 0, .slice (some ⟨v5.heap.size + 1, 0, none⟩) 1 1, .slice (some ⟨v5.heap.size + 1 + 1, 0, none⟩) 1 1] 28)).alloc (.cells #[.int .i64 0, .int .u64 (nil0 : Int), .int .u64 0, .int .i64 0] 45)) (bkcells [(none, 0, [])]) 39 (v5.heap.size + 1 + 1) (by simp)).drewN 1
      have zX := z3.below hq9
      have hbX := below_chain hb03 hq9
      have hcX := xX.lt
      have hvz := z3.lt
      have BX : Books (((v5.alloc (.cells #[.int .i64 most, .slice none 0 0, .int .i64 ba, .int .i64 ev, .int .i64 0, .slice (some ⟨v5.heap.size + 1, 0, none⟩) 1 1, .slice (some ⟨v5.heap.size + 1 + 1, 0, none⟩) 1 1] 28)).alloc (.cells #[.int .i64 0, .int .u64 (nil0 : Int), .int .u64 0, .int .i64 0] 45)).alloc (.cells #[.slice none 0 0] 39)).drew (some ⟨v5.heap.size + 1 + 1, 0, none⟩) [(none, 0, [])] := ⟨bX, fun p hp => by rw [List.mem_singleton.1 hp]; exact Row.nil_ _ _⟩
      clear hq9 z3 hb03 g0 g1 g2 g3 bX hHeld
      generalize (((v5.alloc (.cells #[.int .i64 most, .slice none 0 0, .int .i64 ba, .int .i64 ev, .int .i64 0, .slice (some ⟨v5.heap.size + 1, 0, none⟩) 1 1, .slice (some ⟨v5.heap.size + 1 + 1, 0, none⟩) 1 1] 28)).alloc (.cells #[.int .i64 0, .int .u64 (nil0 : Int), .int .u64 0, .int .i64 0] 45)).alloc (.cells #[.slice none 0 0] 39)).drew = v9 at *
      obtain ⟨a0, a1, a2, a3, a4, a5, a6⟩ := xX.get7
      go_wp2_with fail
      refine (hCk _ _ _ hX BX).out.mono ?_
      rintro xx v10 ⟨rfl, hb10⟩
      have z10 := zX.below hb10
      have hb010 := below_chain hbX hb10
      have hX10 := hX.below hb10
      have BX10 := BX.below hb10
      have x10 := xX.below hb10
      clear a0 a1 a2 a3 a4 a5 a6 zX hbX hb10 hX BX xX hCk
      obtain ⟨a0, a1, a2, a3, a4, a5, a6⟩ := x10.get7
      have z9 : Bx (((((((v10.setCell ⟨w.heap.size, 0, none⟩ (.int .i64 most)).setCell ⟨w.heap.size, 1, none⟩ (.slice none 0 0)).setCell ⟨w.heap.size, 2, none⟩ (.int .i64 ba)).setCell ⟨w.heap.size, 3, none⟩ (.int .i64 ev)).setCell ⟨w.heap.size, 4, none⟩ (.int .i64 0)).setCell ⟨w.heap.size, 5, none⟩ (.slice (some ⟨v5.heap.size + 1, 0, none⟩) 1 1)).setCell ⟨w.heap.size, 6, none⟩ (.slice (some ⟨v5.heap.size + 1 + 1, 0, none⟩) 1 1)) (w.heap.size) [.int .i64 most, .slice none 0 0, .int .i64 ba, .int .i64 ev, .int .i64 0, .slice (some ⟨v5.heap.size + 1, 0, none⟩) 1 1, .slice (some ⟨v5.heap.size + 1 + 1, 0, none⟩) 1 1] := (((((((z10.set 0 (.int .i64 most)).set 1 (.slice none 0 0)).set 2 (.int .i64 ba)).set 3 (.int .i64 ev)).set 4 (.int .i64 0)).set 5 (.slice (some ⟨v5.heap.size + 1, 0, none⟩) 1 1)).set 6 (.slice (some ⟨v5.heap.size + 1 + 1, 0, none⟩) 1 1))
      have hb9 := Lib.hid (((((((hb010.setCell (p := ⟨w.heap.size, 0, none⟩) (by omega : w.heap.size ≤ w.heap.size) (.int .i64 most)).setCell (p := ⟨w.heap.size, 1, none⟩) (by omega : w.heap.size ≤ w.heap.size) (.slice none 0 0)).setCell (p := ⟨w.heap.size, 2, none⟩) (by omega : w.heap.size ≤ w.heap.size) (.int .i64 ba)).setCell (p := ⟨w.heap.size, 3, none⟩) (by omega : w.heap.size ≤ w.heap.size) (.int .i64 ev)).setCell (p := ⟨w.heap.size, 4, none⟩) (by omega : w.heap.size ≤ w.heap.size) (.int .i64 0)).setCell (p := ⟨w.heap.size, 5, none⟩) (by omega : w.heap.size ≤ w.heap.size) (.slice (some ⟨v5.heap.size + 1, 0, none⟩) 1 1)).setCell (p := ⟨w.heap.size, 6, none⟩) (by omega : w.heap.size ≤ w.heap.size) (.slice (some ⟨v5.heap.size + 1 + 1, 0, none⟩) 1 1))
      have hX9 := Lib.hid ((Row.setNew (Row.setNew (Row.setNew (Row.setNew (Row.setNew (Row.setNew (Row.setNew hX10 (by omega : w.heap.size ≠ v5.heap.size + 1) 0 (.int .i64 most)) (by omega : w.heap.size ≠ v5.heap.size + 1) 1 (.slice none 0 0)) (by omega : w.heap.size ≠ v5.heap.size + 1) 2 (.int .i64 ba)) (by omega : w.heap.size ≠ v5.heap.size + 1) 3 (.int .i64 ev)) (by omega : w.heap.size ≠ v5.heap.size + 1) 4 (.int .i64 0)) (by omega : w.heap.size ≠ v5.heap.size + 1) 5 (.slice (some ⟨v5.heap.size + 1, 0, none⟩) 1 1)) (by omega : w.heap.size ≠ v5.heap.size + 1) 6 (.slice (some ⟨v5.heap.size + 1 + 1, 0, none⟩) 1 1)))
      have BX9 := Lib.hid ((Books.setNew (Books.setNew (Books.setNew (Books.setNew (Books.setNew (Books.setNew (Books.setNew BX10 (by omega : w.heap.size ≠ v5.heap.size + 1 + 1) 0 (.int .i64 most)) (by omega : w.heap.size ≠ v5.heap.size + 1 + 1) 1 (.slice none 0 0)) (by omega : w.heap.size ≠ v5.heap.size + 1 + 1) 2 (.int .i64 ba)) (by omega : w.heap.size ≠ v5.heap.size + 1 + 1) 3 (.int .i64 ev)) (by omega : w.heap.size ≠ v5.heap.size + 1 + 1) 4 (.int .i64 0)) (by omega : w.heap.size ≠ v5.heap.size + 1 + 1) 5 (.slice (some ⟨v5.heap.size + 1, 0, none⟩) 1 1)) (by omega : w.heap.size ≠ v5.heap.size + 1 + 1) 6 (.slice (some ⟨v5.heap.size + 1 + 1, 0, none⟩) 1 1)))
      obtain ⟨b0, b1, b2, b3, b4, b5, b6⟩ := z10.get7
      have g0 := z10.f 0 (by simp)
      have g1 := z10.f 1 (by simp)
      have g2 := z10.f 2 (by simp)
      have g3 := z10.f 3 (by simp)
      have g4 := z10.f 4 (by simp)
      have g5 := z10.f 5 (by simp)
      have g6 := z10.f 6 (by simp)
      clear z10 x10
      go_wp2
      generalize (((((((v10.setCell ⟨w.heap.size, 0, none⟩ (.int .i64 most)).setCell ⟨w.heap.size, 1, none⟩ (.slice none 0 0)).setCell ⟨w.heap.size, 2, none⟩ (.int .i64 ba)).setCell ⟨w.heap.size, 3, none⟩ (.int .i64 ev)).setCell ⟨w.heap.size, 4, none⟩ (.int .i64 0)).setCell ⟨w.heap.size, 5, none⟩ (.slice (some ⟨v5.heap.size + 1, 0, none⟩) 1 1)).setCell ⟨w.heap.size, 6, none⟩ (.slice (some ⟨v5.heap.size + 1 + 1, 0, none⟩) 1 1)) = w9 at *
      obtain ⟨r0, r1, r2, r3, r4, r5, r6⟩ := z9.get7
      refine bodyPost_ret (v := .tuple #[.agg #[.int .i64 most, .slice none 0 0, .int .i64 ba, .int .i64 ev, .int .i64 0, .slice (some ⟨v5.heap.size + 1, 0, none⟩) 1 1, .slice (some ⟨v5.heap.size + 1 + 1, 0, none⟩) 1 1], .int .i64 0]) ?_ rfl ⟨_, _, rfl, hX9.out, BX9.out, hb9.out⟩
      rw [results_cell_tmp rfl]
      go_simp
    · skip
      go_simp
      have hq1 : Below v5.heap.size v5 ((v5.alloc (.cells #[.int .i64 0, .slice none 0 0, .int .i64 0, .int .i64 0, .int .i64 0, .slice none 0 0, .slice none 0 0] 28)).alloc (.cells #[.slice none 0 0] 39)).drew := bdrew (balloc (balloc (Below.refl _ _) _) _)
      refine hK.out _ _ ⟨kept g0 hq1, kept g1 hq1, kept g2 hq1, kept g3 hq1⟩ (fun hHeld => ?_)
      clear hK K
      refine wpAnyH_ready (rs := [5]) (by kernel_rfl) (by simp) ?_
      refine AllReadyH.cons rfl (fun K hK => ?_) (AllReadyH.nil)
      go_simp
      have hq2 : Below v5.heap.size v5 (((v5.alloc (.cells #[.int .i64 0, .slice none 0 0, .int .i64 0, .int .i64 0, .int .i64 0, .slice none 0 0, .slice none 0 0] 28)).alloc (.cells #[.slice none 0 0] 39)).alloc (.cells #[.int .i64 0, .int .u64 (nil0 : Int), .int .u64 0, .int .i64 0] 45)).drew := bdrew (balloc (balloc (balloc (Below.refl _ _) _) _) _)
      refine hK.out _ _ ⟨kept g0 hq2, kept g1 hq2, kept g2 hq2, kept g3 hq2⟩ (fun hHeld => ?_)
      clear hK K
      refine wpAnyH_take (i := 7) (v := ?_) rfl (by kernel_rfl) (by kernel_rfl) (by kernel_rfl) (fun _ _ _ h => h) (Or.inl ⟨by rfl, ?_⟩) (by assumption) ?_
      rotate_left
      · intro wt hSt
        try dsimp only at hSt
        first | (go_simp; done) | (go_simp; with_reducible rfl)
      simp only [Act.put, List.setIfInBounds_toArray, List.set_cons_zero, List.set_cons_succ, List.getElem_toArray, List.getElem_cons_zero, List.getElem_cons_succ]
      refine wpAnyH_ready (rs := [9]) (by kernel_rfl) (by simp) ?_
      refine AllReadyH.cons rfl (fun K hK => ?_) (AllReadyH.nil)
      go_simp
      have hq9 : Below v5.heap.size v5 (((v5.alloc (.cells #[.int .i64 most, .slice none 0 0, .int .i64 ba, .int .i64 ev, .int .i64 0, .slice (some ⟨v5.heap.size + 1 + 1, 0, none⟩) 1 1, .slice (some ⟨v5.heap.size + 1, 0, none⟩) 1 1] 28)).alloc (.cells #[.slice none 0 0] 39)).alloc (.cells #[.int .i64 0, .int .u64 (nil0 : Int), .int .u64 0, .int .i64 0] 45)).drew := bdrew (balloc (balloc (balloc (Below.refl _ _) _) _) _)
      refine hK.out _ _ ⟨kept g0 hq9, kept g1 hq9, kept g2 hq9, kept g3 hq9⟩ (fun hHeld => ?_)
      clear hK K
      refine wpAnyH_done (by kernel_rfl) ?_ _
      have xX : Bx (((v5.alloc (.cells #[.int .i64 most, .slice none 0 0, .int .i64 ba, .int .i64 ev, .int .i64 0, .slice (some ⟨v5.heap.size + 1 + 1, 0, none⟩) 1 1, .slice (some ⟨v5.heap.size + 1, 0, none⟩) 1 1] 28)).alloc (.cells #[.slice none 0 0] 39)).alloc (.cells #[.int .i64 0, .int .u64 (nil0 : Int), .int .u64 0, .int .i64 0] 45)).drew (v5.heap.size) [.int .i64 most, .slice none 0 0, .int .i64 ba, .int .i64 ev, .int .i64 0, .slice (some ⟨v5.heap.size + 1 + 1, 0, none⟩) 1 1, .slice (some ⟨v5.heap.size + 1, 0, none⟩) 1 1] := (((Bx.new v5 (v5.heap.size) rfl _ [.int .i64 most, .slice none 0 0, .int .i64 ba, .int .i64 ev, .int .i64 0, .slice (some ⟨v5.heap.size + 1 + 1, 0, none⟩) 1 1, .slice (some ⟨v5.heap.size + 1, 0, none⟩) 1 1] 28 rfl).alloc (.cells #[.slice none 0 0] 39)).alloc (.cells #[.int .i64 0, .int .u64 (nil0 : Int), .int .u64 0, .int .i64 0] 45)).drewN 1
      have hX : Row (((v5.alloc (.cells #[.int .i64 most, .slice none 0 0, .int .i64 ba, .int .i64 ev, .int .i64 0, .slice (some ⟨v5.heap.size + 1 + 1, 0, none⟩) 1 1, .slice (some ⟨v5.heap.size + 1, 0, none⟩) 1 1] 28)).alloc (.cells #[.slice none 0 0] 39)).alloc (.cells #[.int .i64 0, .int .u64 (nil0 : Int), .int .u64 0, .int .i64 0] 45)).drew (some ⟨v5.heap.size + 1 + 1, 0, none⟩) (hcells [(0, nil0, 0, 0)]) := (row_new ((v5.alloc (.cells #[.int .i64 most, .slice none 0 0, .int .i64 ba, .int .i64 ev, .int .i64 0, .slice (some ⟨v5.heap.size + 1 + 1, 0, none⟩) 1 1, .slice (some ⟨v5.heap.size + 1, 0, none⟩) 1 1] 28)).alloc (.cells #[.slice none 0 0] 39)) (hcells [(0, nil0, 0, 0)]) 45 (v5.heap.size + 1 + 1) (by simp)).drewN 1
      have bX : Row (((v5.alloc (.cells #[.int .i64 most, .slice none 0 0, .int .i64 ba, .int .i64 ev, .int .i64 0, .slice (some ⟨v5.heap.size + 1 + 1, 0, none⟩) 1 1, .slice (some ⟨v5.heap.size + 1, 0, none⟩) 1 1] 28)).alloc (.cells #[.slice none 0 0] 39)).alloc (.cells #[.int .i64 0, .int .u64 (nil0 : Int), .int .u64 0, .int .i64 0] 45)).drew (some ⟨v5.heap.size + 1, 0, none⟩) (bkcells [(none, 0, [])]) := ((row_new (v5.alloc (.cells #[.int .i64 most, .slice none 0 0, .int .i64 ba, .int .i64 ev, .int .i64 0, .slice (some ⟨v5.heap.size + 1 + 1, 0, none⟩) 1 1, .slice (some ⟨v5.heap.size + 1, 0, none⟩) 1 1] 28)) (bkcells [(none, 0, [])]) 39 (v5.heap.size + 1) (by simp)).alloc (.cells #[.int .i64 0, .int .u64 (nil0 : Int), .int .u64 0, .int .i64 0] 45)).drewN 1
      have zX := z3.below hq9
      have hbX := below_chain hb03 hq9
      have hcX := xX.lt
      have hvz := z3.lt
      have BX : Books (((v5.alloc (.cells #[.int .i64 most, .slice none 0 0, .int .i64 ba, .int .i64 ev, .int .i64 0, .slice (some ⟨v5.heap.size + 1 + 1, 0, none⟩) 1 1, .slice (some ⟨v5.heap.size + 1, 0, none⟩) 1 1] 28)).alloc (.cells #[.slice none 0 0] 39)).alloc (.cells #[.int .i64 0, .int .u64 (nil0 : Int), .int .u64 0, .int .i64 0] 45)).drew (some ⟨v5.heap.size + 1, 0, none⟩) [(none, 0, [])] := ⟨bX, fun p hp => by rw [List.mem_singleton.1 hp]; exact Row.nil_ _ _⟩
      clear hq9 z3 hb03 g0 g1 g2 g3 bX hHeld
      generalize (((v5.alloc (.cells #[.int .i64 most, .slice none 0 0, .int .i64 ba, .int .i64 ev, .int .i64 0, .slice (some ⟨v5.heap.size + 1 + 1, 0, none⟩) 1 1, .slice (some ⟨v5.heap.size + 1, 0, none⟩) 1 1] 28)).alloc (.cells #[.slice none 0 0] 39)).alloc (.cells #[.int .i64 0, .int .u64 (nil0 : Int), .int .u64 0, .int .i64 0] 45)).drew = v9 at *
      obtain ⟨a0, a1, a2, a3, a4, a5, a6⟩ := xX.get7
      go_wp2_with fail
      refine (hCk _ _ _ hX BX).out.mono ?_
      rintro xx v10 ⟨rfl, hb10⟩
      have z10 := zX.below hb10
      have hb010 := below_chain hbX hb10
      have hX10 := hX.below hb10
      have BX10 := BX.below hb10
      have x10 := xX.below hb10
      clear a0 a1 a2 a3 a4 a5 a6 zX hbX hb10 hX BX xX hCk
      obtain ⟨a0, a1, a2, a3, a4, a5, a6⟩ := x10.get7
      have z9 : Bx (((((((v10.setCell ⟨w.heap.size, 0, none⟩ (.int .i64 most)).setCell ⟨w.heap.size, 1, none⟩ (.slice none 0 0)).setCell ⟨w.heap.size, 2, none⟩ (.int .i64 ba)).setCell ⟨w.heap.size, 3, none⟩ (.int .i64 ev)).setCell ⟨w.heap.size, 4, none⟩ (.int .i64 0)).setCell ⟨w.heap.size, 5, none⟩ (.slice (some ⟨v5.heap.size + 1 + 1, 0, none⟩) 1 1)).setCell ⟨w.heap.size, 6, none⟩ (.slice (some ⟨v5.heap.size + 1, 0, none⟩) 1 1)) (w.heap.size) [.int .i64 most, .slice none 0 0, .int .i64 ba, .int .i64 ev, .int .i64 0, .slice (some ⟨v5.heap.size + 1 + 1, 0, none⟩) 1 1, .slice (some ⟨v5.heap.size + 1, 0, none⟩) 1 1] := (((((((z10.set 0 (.int .i64 most)).set 1 (.slice none 0 0)).set 2 (.int .i64 ba)).set 3 (.int .i64 ev)).set 4 (.int .i64 0)).set 5 (.slice (some ⟨v5.heap.size + 1 + 1, 0, none⟩) 1 1)).set 6 (.slice (some ⟨v5.heap.size + 1, 0, none⟩) 1 1))
      have hb9 := Lib.hid (((((((hb010.setCell (p := ⟨w.heap.size, 0, none⟩) (by omega : w.heap.size ≤ w.heap.size) (.int .i64 most)).setCell (p := ⟨w.heap.size, 1, none⟩) (by omega : w.heap.size ≤ w.heap.size) (.slice none 0 0)).setCell (p := ⟨w.heap.size, 2, none⟩) (by omega : w.heap.size ≤ w.heap.size) (.int .i64 ba)).setCell (p := ⟨w.heap.size, 3, none⟩) (by omega : w.heap.size ≤ w.heap.size) (.int .i64 ev)).setCell (p := ⟨w.heap.size, 4, none⟩) (by omega : w.heap.size ≤ w.heap.size) (.int .i64 0)).setCell (p := ⟨w.heap.size, 5, none⟩) (by omega : w.heap.size ≤ w.heap.size) (.slice (some ⟨v5.heap.size + 1 + 1, 0, none⟩) 1 1)).setCell (p := ⟨w.heap.size, 6, none⟩) (by omega : w.heap.size ≤ w.heap.size) (.slice (some ⟨v5.heap.size + 1, 0, none⟩) 1 1))
      have hX9 := Lib.hid ((Row.setNew (Row.setNew (Row.setNew (Row.setNew (Row.setNew (Row.setNew (Row.setNew hX10 (by omega : w.heap.size ≠ v5.heap.size + 1 + 1) 0 (.int .i64 most)) (by omega : w.heap.size ≠ v5.heap.size + 1 + 1) 1 (.slice none 0 0)) (by omega : w.heap.size ≠ v5.heap.size + 1 + 1) 2 (.int .i64 ba)) (by omega : w.heap.size ≠ v5.heap.size + 1 + 1) 3 (.int .i64 ev)) (by omega : w.heap.size ≠ v5.heap.size + 1 + 1) 4 (.int .i64 0)) (by omega : w.heap.size ≠ v5.heap.size + 1 + 1) 5 (.slice (some ⟨v5.heap.size + 1 + 1, 0, none⟩) 1 1)) (by omega : w.heap.size ≠ v5.heap.size + 1 + 1) 6 (.slice (some ⟨v5.heap.size + 1, 0, none⟩) 1 1)))
      have BX9 := Lib.hid ((Books.setNew (Books.setNew (Books.setNew (Books.setNew (Books.setNew (Books.setNew (Books.setNew BX10 (by omega : w.heap.size ≠ v5.heap.size + 1) 0 (.int .i64 most)) (by omega : w.heap.size ≠ v5.heap.size + 1) 1 (.slice none 0 0)) (by omega : w.heap.size ≠ v5.heap.size + 1) 2 (.int .i64 ba)) (by omega : w.heap.size ≠ v5.heap.size + 1) 3 (.int .i64 ev)) (by omega : w.heap.size ≠ v5.heap.size + 1) 4 (.int .i64 0)) (by omega : w.heap.size ≠ v5.heap.size + 1) 5 (.slice (some ⟨v5.heap.size + 1 + 1, 0, none⟩) 1 1)) (by omega : w.heap.size ≠ v5.heap.size + 1) 6 (.slice (some ⟨v5.heap.size + 1, 0, none⟩) 1 1)))
      obtain ⟨b0, b1, b2, b3, b4, b5, b6⟩ := z10.get7
      have g0 := z10.f 0 (by simp)
      have g1 := z10.f 1 (by simp)
      have g2 := z10.f 2 (by simp)
      have g3 := z10.f 3 (by simp)
      have g4 := z10.f 4 (by simp)
      have g5 := z10.f 5 (by simp)
      have g6 := z10.f 6 (by simp)
      clear z10 x10
      go_wp2
      generalize (((((((v10.setCell ⟨w.heap.size, 0, none⟩ (.int .i64 most)).setCell ⟨w.heap.size, 1, none⟩ (.slice none 0 0)).setCell ⟨w.heap.size, 2, none⟩ (.int .i64 ba)).setCell ⟨w.heap.size, 3, none⟩ (.int .i64 ev)).setCell ⟨w.heap.size, 4, none⟩ (.int .i64 0)).setCell ⟨w.heap.size, 5, none⟩ (.slice (some ⟨v5.heap.size + 1 + 1, 0, none⟩) 1 1)).setCell ⟨w.heap.size, 6, none⟩ (.slice (some ⟨v5.heap.size + 1, 0, none⟩) 1 1)) = w9 at *
      obtain ⟨r0, r1, r2, r3, r4, r5, r6⟩ := z9.get7
      refine bodyPost_ret (v := .tuple #[.agg #[.int .i64 most, .slice none 0 0, .int .i64 ba, .int .i64 ev, .int .i64 0, .slice (some ⟨v5.heap.size + 1 + 1, 0, none⟩) 1 1, .slice (some ⟨v5.heap.size + 1, 0, none⟩) 1 1], .int .i64 0]) ?_ rfl ⟨_, _, rfl, hX9.out, BX9.out, hb9.out⟩
      rw [results_cell_tmp rfl]
      go_simp
end Go.Proofs.YtjcockcilkiggaaGreat
