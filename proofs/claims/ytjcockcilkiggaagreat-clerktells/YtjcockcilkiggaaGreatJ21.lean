/- Package queue: Take returns the queue without its first requests, and these, or the error; Wait returns how long at most. They write nothing that was there. -/
import Derived.Test.YtjcockcilkiggaaGreatJ20
namespace Go.Proofs.YtjcockcilkiggaaGreat
set_option maxRecDepth 100000
open Go.RowKit

/-- The error of Take. -/
def takeErr (most : Int) (l : List Ak) (n : Int) : Int := if qfault most l = 0 then (if n < 0 then 4 else 0) else qfault most l
/-- A row of the call's own. -/
def OwnAsks (w' : World) (base : Nat) (D : Option Addr) (T : List Ak) (d : Nat) : Prop := w'.ownsRow base 31 4 (.slice D T.length d) T.length (qcells T)
/-- The queue that is left and the requests that were taken, in rows of the call's own. -/
def TakeGives (most : Int) (T U : List Ak) (w : World) (e : Ending) (w' : World) : Prop :=
  ∃ D d E f, e = .returned (.tuple #[.agg #[.int .i64 most, .slice D T.length d], .slice E U.length f, .int .i64 0]) ∧ OwnAsks w' w.heap.size D T d ∧ OwnAsks w' w.heap.size E U f ∧ Below w.heap.size w w'
/-- slices.Clone, the length as a letter. -/
theorem cloneAsksN (A : Option Addr) (c n : Nat) (l : List Ak) (w : World) (hn : l.length = n) (hm : n ≤ 1000) (hA : Row w A (qcells l)) :
    Calls Tryz.prog 47 #[.slice A n c] w (AsksGives l w) := by
  subst hn
  exact cloneAsks0 A c l w (by omega) hA

set_option maxHeartbeats 1000000 in
theorem queueTake_no (most : Int) (A : Option Addr) (c : Nat) (l : List Ak) (n : Int) (w : World) (hm : l.length ≤ maxLen) (hl : ∀ x ∈ l, AkFits x) (hA : Row w A (qcells l))
    (r : Int) (hr : takeErr most l n = r) (h0 : r ≠ 0) :
    Calls Tryz.prog 50 #[.agg #[.int .i64 most, .slice A l.length c], .int .i64 n] w (QueueNo (.slice none 0 0) r w) := by
  have hC := fun (w : World) hA => Lib.hid (queueCheck most A c l w hm hl hA _ rfl)
  have hq0 := (Bx.new w _ rfl _ [.int .i64 most, .slice A l.length c] 24 rfl).alloc (.cells #[.int .i64 0, .slice none 0 0] 24)
  have hz0 := Bx.new (w.alloc (.cells #[.int .i64 most, .slice A l.length c] 24)) (w.heap.size + 1) (by simp) _ [.int .i64 0, .slice none 0 0] 24 rfl
  have hb0 : Below w.heap.size w ((w.alloc (.cells #[.int .i64 most, .slice A l.length c] 24)).alloc (.cells #[.int .i64 0, .slice none 0 0] 24)) := ((Below.refl _ _).alloc (Nat.le_refl _) _).alloc (by simp) _
  have hA0 := (hA.alloc (.cells #[.int .i64 most, .slice A l.length c] 24)).alloc (.cells #[.int .i64 0, .slice none 0 0] 24)
  obtain ⟨⟨q0, q1⟩, _⟩ := hq0.get2
  have c0 : (r != 0) = true := bne_iff_ne.2 h0
  unfold takeErr at hr
  by_cases k0 : qfault most l = 0
  · rw [if_pos k0] at hr
    rw [k0] at hC
    by_cases k1 : n < 0
    · rw [if_pos k1] at hr
      subst hr
      clear k0 hm hl hA h0 c0
      go_enter Tryz.func50, Tryz.ntmps50
      go_wp2_with fail
      refine (hC _ hA0).out.mono ?_
      rintro e w1 ⟨rfl, hb1⟩
      have hb3 := below_chain hb0 hb1
      have hz3 := hz0.below hb1
      clear hC hA0 q0 q1 hz0 hq0 hb0 hb1
      obtain ⟨⟨z0, z1⟩, ⟨e0, e1⟩⟩ := hz3.get2
      have hz9 := hz3.set2 (.int .i64 0) (.slice none 0 0)
      have hb9 := below_set2 hb3 (by omega : w.heap.size ≤ w.heap.size + 1) (.int .i64 0) (.slice none 0 0)
      clear hz3 hb3
      go_wp2
      generalize (w1.setCell ⟨w.heap.size + 1, 0, none⟩ (.int .i64 0)).setCell ⟨w.heap.size + 1, 1, none⟩ (.slice none 0 0) = w9 at *
      obtain ⟨⟨r0, r1⟩, _⟩ := hz9.get2
      refine bodyPost_ret (v := .tuple #[.agg #[.int .i64 0, .slice none 0 0], .slice none 0 0, .int .i64 4]) ?_ rfl ⟨rfl, hb9⟩
      rw [results_cell_tmp2 rfl]
      go_simp
    · rw [if_neg k1] at hr
      exact absurd hr.symm h0
  · rw [if_neg k0] at hr
    rw [hr] at hC
    clear k0 hm hl hA h0 hr
    go_enter Tryz.func50, Tryz.ntmps50
    go_wp2_with fail
    refine (hC _ hA0).out.mono ?_
    rintro e w1 ⟨rfl, hb1⟩
    have hb3 := below_chain hb0 hb1
    have hz3 := hz0.below hb1
    clear hC hA0 q0 q1 hz0 hq0 hb0 hb1
    obtain ⟨⟨z0, z1⟩, ⟨e0, e1⟩⟩ := hz3.get2
    have hz9 := hz3.set2 (.int .i64 0) (.slice none 0 0)
    have hb9 := below_set2 hb3 (by omega : w.heap.size ≤ w.heap.size + 1) (.int .i64 0) (.slice none 0 0)
    clear hz3 hb3
    go_wp2
    generalize (w1.setCell ⟨w.heap.size + 1, 0, none⟩ (.int .i64 0)).setCell ⟨w.heap.size + 1, 1, none⟩ (.slice none 0 0) = w9 at *
    obtain ⟨⟨r0, r1⟩, _⟩ := hz9.get2
    refine bodyPost_ret (v := .tuple #[.agg #[.int .i64 0, .slice none 0 0], .slice none 0 0, .int .i64 r]) ?_ rfl ⟨rfl, hb9⟩
    rw [results_cell_tmp2 rfl]
    go_simp

set_option maxHeartbeats 4000000 in
theorem queueTake_okA (most : Int) (A : Option Addr) (c : Nat) (l : List Ak) (n j : Nat) (w : World) (hg : QGood most l) (hl : ∀ x ∈ l, AkFits x) (hc : l.length ≤ c) (hA : Row w A (qcells l))
    (hj : j = min n l.length) (hcj : c = j) :
    Calls Tryz.prog 50 #[.agg #[.int .i64 most, .slice A l.length c], .int .i64 (n : Int)] w (TakeGives most (l.drop j) (l.take j) w) := by
  have hlen : l.length ≤ 30 := by have := hg.m30; have := hg.len; omega
  have hC := fun (w : World) hA => Lib.hid (queueCheck most A c l w (by unfold maxLen; omega) hl hA 0 ((qfault_ok most l).2 hg))
  have hD : ∀ w : World, Row w A (qcells l) → Hid (Row w A (qcells (l.drop j))) := fun w h => by
    show Row _ _ _
    rw [List.drop_eq_nil_of_le (by omega)]; exact Row.nil_ _ _
  have hU : ∀ w : World, Row w A (qcells l) → Hid (Row w A (qcells (l.take j))) := fun w h => h.takeQ j
  have hCd := fun (A : Option Addr) (c : Nat) (w : World) hA => Lib.hid (cloneAsksN A c (l.length - j) (l.drop j) w (by rw [List.length_drop]) (by omega) hA)
  have hCt := fun (A : Option Addr) (c : Nat) (w : World) hA => Lib.hid (cloneAsksN A c j (l.take j) w (by rw [List.length_take]; omega) (by omega) hA)
  have hq0 := (Bx.new w _ rfl _ [.int .i64 most, .slice A l.length c] 24 rfl).alloc (.cells #[.int .i64 0, .slice none 0 0] 24)
  have hz0 := Bx.new (w.alloc (.cells #[.int .i64 most, .slice A l.length c] 24)) (w.heap.size + 1) (by simp) _ [.int .i64 0, .slice none 0 0] 24 rfl
  have hb0 : Below w.heap.size w ((w.alloc (.cells #[.int .i64 most, .slice A l.length c] 24)).alloc (.cells #[.int .i64 0, .slice none 0 0] 24)) := ((Below.refl _ _).alloc (Nat.le_refl _) _).alloc (by simp) _
  have hA0 := (hA.alloc (.cells #[.int .i64 most, .slice A l.length c] 24)).alloc (.cells #[.int .i64 0, .slice none 0 0] 24)
  obtain ⟨⟨q0, q1⟩, _⟩ := hq0.get2
  have hmn : min (n : Int) (l.length : Int) = (j : Int) := by omega
  have hn0 : decide ((n : Int) < 0) = false := decide_eq_false (by omega)
  have hjl : j ≤ l.length := by omega
  have hi0 : (0 : Int) ≤ (j : Int) := by omega
  have hi1 : (j : Int) ≤ (l.length : Int) := by omega
  have hi2 : (j : Int) ≤ (c : Int) := by omega
  have hi3 : (l.length : Int) ≤ (c : Int) := by omega
  generalize hT : l.drop j = T at *
  generalize hUu : l.take j = U at *
  clear hT hUu hg hl hA hj
  have hcj' := hcj.symm
  subst hcj'
  clear hcj hc
  go_enter Tryz.func50, Tryz.ntmps50
  go_wp2_with fail
  refine (hC _ hA0).out.mono ?_
  rintro e v3 ⟨rfl, hb1⟩
  have hb3 := below_chain hb0 hb1
  have hz3 := hz0.below hb1
  have hq3 := hq0.below hb1
  have hA3 := hA0.below hb1
  clear hC hA0 q0 q1 hz0 hq0 hb0 hb1
  obtain ⟨⟨q0, q1⟩, _⟩ := hq3.get2
  obtain ⟨⟨z0, z1⟩, ⟨e0, e1⟩⟩ := hz3.get2
  go_wp2_with fail
-- REGION A
  have hs3 := hb3.size
  have hzl := hz3.lt
  refine wp_region_held_drew (S := fun W => W.cell? ⟨w.heap.size, 0, none⟩ = some (.int .i64 most) ∧ W.cell? ⟨w.heap.size, 1, none⟩ = some (.slice A l.length j)) (by kernel_rfl) ⟨q0, q1⟩ (fun hHeld => ?_)
  refine wpAnyH_take (i := 0) (v := ?_) rfl (by kernel_rfl) (by kernel_rfl) (by kernel_rfl) (fun _ _ _ h => h) (Or.inl ⟨by rfl, ?_⟩) (by assumption) ?_
  rotate_left
  · intro wt hSt
    try dsimp only at hSt
    first | (go_simp; done) | (go_simp; with_reducible rfl)
  simp only [Act.put, List.setIfInBounds_toArray, List.set_cons_zero, List.set_cons_succ, List.getElem_toArray, List.getElem_cons_zero]
  refine wpAnyH_take (i := 1) (v := ?_) rfl (by kernel_rfl) (by kernel_rfl) (by kernel_rfl) (fun _ _ _ h => h) (Or.inl ⟨by rfl, ?_⟩) (by assumption) ?_
  rotate_left
  · intro wt hSt
    try dsimp only at hSt
    first | (go_simp; done) | (go_simp; with_reducible rfl)
  simp only [Act.put, List.setIfInBounds_toArray, List.set_cons_zero, List.set_cons_succ, List.getElem_toArray, List.getElem_cons_zero, List.getElem_cons_succ]
  refine wpAnyH_take (i := 2) (v := ?_) rfl (by kernel_rfl) (by kernel_rfl) (by kernel_rfl) (fun _ _ _ h => h) (Or.inl ⟨by rfl, ?_⟩) (by assumption) ?_
  rotate_left
  · intro wt hSt
    try dsimp only at hSt
    first | (go_simp; done) | (go_simp; with_reducible rfl)
  simp only [Act.put, List.setIfInBounds_toArray, List.set_cons_zero, List.set_cons_succ, List.getElem_toArray, List.getElem_cons_zero, List.getElem_cons_succ]
  refine wpAnyH_take (i := 3) (v := ?_) rfl (by kernel_rfl) (by kernel_rfl) (by kernel_rfl) (fun _ _ _ h => h) (Or.inl ⟨by rfl, ?_⟩) (by assumption) ?_
  rotate_left
  · intro wt hSt
    try dsimp only at hSt
    first | (go_simp; done) | (go_simp; with_reducible rfl)
  simp only [Act.put, List.setIfInBounds_toArray, List.set_cons_zero, List.set_cons_succ, List.getElem_toArray, List.getElem_cons_zero, List.getElem_cons_succ]
  refine wpAnyH_take (i := 4) (v := ?_) rfl (by kernel_rfl) (by kernel_rfl) (by kernel_rfl) (fun _ _ _ h => h) (Or.inl ⟨by rfl, ?_⟩) (by assumption) ?_
  rotate_left
  · intro wt hSt
    try dsimp only at hSt
    first | (go_simp; done) | (go_simp; with_reducible rfl)
  simp only [Act.put, List.setIfInBounds_toArray, List.set_cons_zero, List.set_cons_succ, List.getElem_toArray, List.getElem_cons_zero, List.getElem_cons_succ]
  refine wpAnyH_take (i := 5) (v := ?_) rfl (by kernel_rfl) (by kernel_rfl) (by kernel_rfl) (fun _ _ _ h => h) (Or.inl ⟨by rfl, ?_⟩) (by assumption) ?_
  rotate_left
  · intro wt hSt
    try dsimp only at hSt
    first | (go_simp; done) | (go_simp; with_reducible rfl)
  simp only [Act.put, List.setIfInBounds_toArray, List.set_cons_zero, List.set_cons_succ, List.getElem_toArray, List.getElem_cons_zero, List.getElem_cons_succ]
  refine wpAnyH_take (i := 8) (v := ?_) rfl (by kernel_rfl) (by kernel_rfl) (by kernel_rfl) (fun _ _ _ h => h) (Or.inl ⟨by rfl, ?_⟩) (by assumption) ?_
  rotate_left
  · intro wt hSt
    try dsimp only at hSt
    first | (go_simp; done) | (go_simp; with_reducible rfl)
  simp only [Act.put, List.setIfInBounds_toArray, List.set_cons_zero, List.set_cons_succ, List.getElem_toArray, List.getElem_cons_zero, List.getElem_cons_succ]
  refine wpAnyH_take (i := 9) (v := ?_) rfl (by kernel_rfl) (by kernel_rfl) (by kernel_rfl) (fun _ _ _ h => h) (Or.inl ⟨by rfl, ?_⟩) (by assumption) ?_
  rotate_left
  · intro wt hSt
    try dsimp only at hSt
    first | (go_simp; done) | (go_simp; with_reducible rfl)
  simp only [Act.put, List.setIfInBounds_toArray, List.set_cons_zero, List.set_cons_succ, List.getElem_toArray, List.getElem_cons_zero, List.getElem_cons_succ]
  refine wpAnyH_take (i := 10) (v := ?_) rfl (by kernel_rfl) (by kernel_rfl) (by kernel_rfl) (fun _ _ _ h => h) (Or.inl ⟨by rfl, ?_⟩) (by assumption) ?_
  rotate_left
  · intro wt hSt
    try dsimp only at hSt
    first | (go_simp; done) | (go_simp; with_reducible rfl)
  simp only [Act.put, List.setIfInBounds_toArray, List.set_cons_zero, List.set_cons_succ, List.getElem_toArray, List.getElem_cons_zero, List.getElem_cons_succ]
  refine wpAnyH_take (i := 11) (v := ?_) rfl (by kernel_rfl) (by kernel_rfl) (by kernel_rfl) (fun _ _ _ h => h) (Or.inl ⟨by rfl, ?_⟩) (by assumption) ?_
  rotate_left
  · intro wt hSt
    try dsimp only at hSt
    first | (go_simp; done) | (go_simp; with_reducible rfl)
  simp only [Act.put, List.setIfInBounds_toArray, List.set_cons_zero, List.set_cons_succ, List.getElem_toArray, List.getElem_cons_zero, List.getElem_cons_succ]
  refine wpAnyH_ready (rs := [6]) (by kernel_rfl) (by simp) ?_
  refine AllReadyH.cons rfl (fun K hK => ?_) AllReadyH.nil
  go_simp
  go_at_call 47
  refine (hCd _ _ _ ?_).out.mono ?_
  exact (hD _ (hA3.drewN 1)).out
  rintro e w4 ⟨D5, d5, rfl, hown4, hb4'⟩
  have hb4 : Below v3.heap.size v3 w4 := below_chain (bdrew (Below.refl _ _)) hb4'
  have hA4 := hA3.below hb4
  go_wp2_with fail
  refine hK.out _ _ ⟨(hq3.below hb4).get2.1.1, (hq3.below hb4).get2.1.2⟩ (fun hHeld => ?_)
  clear hK K
  refine wpAnyH_take (i := 7) (v := ?_) rfl (by kernel_rfl) (by kernel_rfl) (by kernel_rfl) (fun _ _ _ h => h) (Or.inl ⟨by rfl, ?_⟩) (by assumption) ?_
  rotate_left
  · intro wt hSt
    try dsimp only at hSt
    first | (go_simp; done) | (go_simp; with_reducible rfl)
  simp only [Act.put, List.setIfInBounds_toArray, List.set_cons_zero, List.set_cons_succ, List.getElem_toArray, List.getElem_cons_zero, List.getElem_cons_succ]
  refine wpAnyH_ready (rs := [12]) (by kernel_rfl) (by simp) ?_
  refine AllReadyH.cons rfl (fun K hK => ?_) AllReadyH.nil
  go_simp
  go_at_call 47
  refine (hCt _ _ _ ?_).out.mono ?_
  exact (hU _ hA4).out
  rintro e w5 ⟨E5, f5, rfl, hown5', hb5'⟩
  have hb5 : Below v3.heap.size v3 w5 := below_chain hb4 hb5'
  have hown5 : w5.ownsRow v3.heap.size 31 4 (.slice E5 U.length f5) U.length (qcells U) := own_baseQ hown5' hb4.size
  have hown4' : w5.ownsRow v3.heap.size 31 4 (.slice D5 T.length d5) T.length (qcells T) := own_baseQ (own_belowN hown4 hb5') (by simp)
  have hz5 := hz3.below hb5
  have hq5 := hq3.below hb5
  obtain ⟨⟨z50, z51⟩, ⟨e50, e51⟩⟩ := hz5.get2
  go_wp2_with fail
  refine hK.out _ _ ⟨(hq3.below hb5).get2.1.1, (hq3.below hb5).get2.1.2⟩ (fun hHeld => ?_)
  clear hK K
  refine wpAnyH_ready (rs := [13]) (by kernel_rfl) (by simp) ?_
  refine AllReadyH.cons rfl (fun K hK => ?_) AllReadyH.nil
  go_simp
  have hq9 := (hq5.far (h := w.heap.size + 1) (by omega) 0 (.int .i64 most)).far (h := w.heap.size + 1) (by omega) 1 (.slice D5 T.length d5)
  refine hK.out _ _ ⟨hq9.get2.1.1, hq9.get2.1.2⟩ (fun hHeld => ?_)
  clear hK K
  refine wpAnyH_take (i := 14) (v := ?_) rfl (by kernel_rfl) (by kernel_rfl) (by kernel_rfl) (fun _ _ _ h => h) (Or.inl ⟨by rfl, ?_⟩) (by assumption) ?_
  rotate_left
  · intro wt hSt
    try dsimp only at hSt
    first | (go_simp; done) | (go_simp; with_reducible rfl)
  simp only [Act.put, List.setIfInBounds_toArray, List.set_cons_zero, List.set_cons_succ, List.getElem_toArray, List.getElem_cons_zero, List.getElem_cons_succ]
  refine wpAnyH_take (i := 15) (v := ?_) rfl (by kernel_rfl) (by kernel_rfl) (by kernel_rfl) (fun _ _ _ h => h) (Or.inl ⟨by rfl, ?_⟩) (by assumption) ?_
  rotate_left
  · intro wt hSt
    try dsimp only at hSt
    first | (go_simp; done) | (go_simp; with_reducible rfl)
  simp only [Act.put, List.setIfInBounds_toArray, List.set_cons_zero, List.set_cons_succ, List.getElem_toArray, List.getElem_cons_zero, List.getElem_cons_succ]
  refine wpAnyH_done (by kernel_rfl) ?_ _
  have hz9 := hz5.set2 (.int .i64 most) (.slice D5 T.length d5)
  have hb9 := below_set2 (below_chain hb3 hb5) (by omega : w.heap.size ≤ w.heap.size + 1) (.int .i64 most) (.slice D5 T.length d5)
  have hg9 := (grown_setQ w5 ⟨w.heap.size + 1, 0, none⟩ (.int .i64 most)).trans (grown_setQ _ ⟨w.heap.size + 1, 1, none⟩ (.slice D5 T.length d5))
  have hown9 := own_baseQ (hown4'.kept hg9 (.inr fun e => absurd (hown4'.lt _ e).1 (by show ¬ v3.heap.size ≤ w.heap.size + 1; omega))) hs3
  have hown8 := own_baseQ (hown5.kept hg9 (.inr fun e => absurd (hown5.lt _ e).1 (by show ¬ v3.heap.size ≤ w.heap.size + 1; omega))) hs3
  go_wp2
  generalize (w5.setCell ⟨w.heap.size + 1, 0, none⟩ (.int .i64 most)).setCell ⟨w.heap.size + 1, 1, none⟩ (.slice D5 T.length d5) = w9 at *
  obtain ⟨⟨r0, r1⟩, _⟩ := hz9.get2
  refine bodyPost_ret (v := .tuple #[.agg #[.int .i64 most, (.slice D5 T.length d5)], .slice E5 U.length f5, .int .i64 0]) ?_ rfl ⟨D5, d5, E5, f5, rfl, hown9, hown8, hb9⟩
  rw [results_cell_tmp2 rfl]
  go_simp
-- END A

set_option maxHeartbeats 4000000 in
theorem queueTake_okB (most : Int) (A : Option Addr) (c : Nat) (l : List Ak) (n j : Nat) (w : World) (hg : QGood most l) (hl : ∀ x ∈ l, AkFits x) (hc : l.length ≤ c) (hA : Row w A (qcells l))
    (hj : j = min n l.length) (hcj : ¬ c = j) :
    Calls Tryz.prog 50 #[.agg #[.int .i64 most, .slice A l.length c], .int .i64 (n : Int)] w (TakeGives most (l.drop j) (l.take j) w) := by
  have hlen : l.length ≤ 30 := by have := hg.m30; have := hg.len; omega
  have hC := fun (w : World) hA => Lib.hid (queueCheck most A c l w (by unfold maxLen; omega) hl hA 0 ((qfault_ok most l).2 hg))
  have hD : ∀ w : World, Row w A (qcells l) → Hid (Row w (A.map (·.add (j * 4))) (qcells (l.drop j))) := fun w h => h.dropQ j
  have hU : ∀ w : World, Row w A (qcells l) → Hid (Row w A (qcells (l.take j))) := fun w h => h.takeQ j
  have hCd := fun (A : Option Addr) (c : Nat) (w : World) hA => Lib.hid (cloneAsksN A c (l.length - j) (l.drop j) w (by rw [List.length_drop]) (by omega) hA)
  have hCt := fun (A : Option Addr) (c : Nat) (w : World) hA => Lib.hid (cloneAsksN A c j (l.take j) w (by rw [List.length_take]; omega) (by omega) hA)
  have hq0 := (Bx.new w _ rfl _ [.int .i64 most, .slice A l.length c] 24 rfl).alloc (.cells #[.int .i64 0, .slice none 0 0] 24)
  have hz0 := Bx.new (w.alloc (.cells #[.int .i64 most, .slice A l.length c] 24)) (w.heap.size + 1) (by simp) _ [.int .i64 0, .slice none 0 0] 24 rfl
  have hb0 : Below w.heap.size w ((w.alloc (.cells #[.int .i64 most, .slice A l.length c] 24)).alloc (.cells #[.int .i64 0, .slice none 0 0] 24)) := ((Below.refl _ _).alloc (Nat.le_refl _) _).alloc (by simp) _
  have hA0 := (hA.alloc (.cells #[.int .i64 most, .slice A l.length c] 24)).alloc (.cells #[.int .i64 0, .slice none 0 0] 24)
  obtain ⟨⟨q0, q1⟩, _⟩ := hq0.get2
  have hmn : min (n : Int) (l.length : Int) = (j : Int) := by omega
  have hn0 : decide ((n : Int) < 0) = false := decide_eq_false (by omega)
  have hjl : j ≤ l.length := by omega
  have hi0 : (0 : Int) ≤ (j : Int) := by omega
  have hi1 : (j : Int) ≤ (l.length : Int) := by omega
  have hi2 : (j : Int) ≤ (c : Int) := by omega
  have hi3 : (l.length : Int) ≤ (c : Int) := by omega
  generalize hT : l.drop j = T at *
  generalize hUu : l.take j = U at *
  clear hT hUu hg hl hA hj
  go_enter Tryz.func50, Tryz.ntmps50
  go_wp2_with fail
  refine (hC _ hA0).out.mono ?_
  rintro e v3 ⟨rfl, hb1⟩
  have hb3 := below_chain hb0 hb1
  have hz3 := hz0.below hb1
  have hq3 := hq0.below hb1
  have hA3 := hA0.below hb1
  clear hC hA0 q0 q1 hz0 hq0 hb0 hb1
  obtain ⟨⟨q0, q1⟩, _⟩ := hq3.get2
  obtain ⟨⟨z0, z1⟩, ⟨e0, e1⟩⟩ := hz3.get2
  go_wp2_with fail
-- REGION B
  have hs3 := hb3.size
  have hzl := hz3.lt
  refine wp_region_held_drew (S := fun W => W.cell? ⟨w.heap.size, 0, none⟩ = some (.int .i64 most) ∧ W.cell? ⟨w.heap.size, 1, none⟩ = some (.slice A l.length c)) (by kernel_rfl) ⟨q0, q1⟩ (fun hHeld => ?_)
  refine wpAnyH_take (i := 0) (v := ?_) rfl (by kernel_rfl) (by kernel_rfl) (by kernel_rfl) (fun _ _ _ h => h) (Or.inl ⟨by rfl, ?_⟩) (by assumption) ?_
  rotate_left
  · intro wt hSt
    try dsimp only at hSt
    first | (go_simp; done) | (go_simp; with_reducible rfl)
  simp only [Act.put, List.setIfInBounds_toArray, List.set_cons_zero, List.set_cons_succ, List.getElem_toArray, List.getElem_cons_zero]
  refine wpAnyH_take (i := 1) (v := ?_) rfl (by kernel_rfl) (by kernel_rfl) (by kernel_rfl) (fun _ _ _ h => h) (Or.inl ⟨by rfl, ?_⟩) (by assumption) ?_
  rotate_left
  · intro wt hSt
    try dsimp only at hSt
    first | (go_simp; done) | (go_simp; with_reducible rfl)
  simp only [Act.put, List.setIfInBounds_toArray, List.set_cons_zero, List.set_cons_succ, List.getElem_toArray, List.getElem_cons_zero, List.getElem_cons_succ]
  refine wpAnyH_take (i := 2) (v := ?_) rfl (by kernel_rfl) (by kernel_rfl) (by kernel_rfl) (fun _ _ _ h => h) (Or.inl ⟨by rfl, ?_⟩) (by assumption) ?_
  rotate_left
  · intro wt hSt
    try dsimp only at hSt
    first | (go_simp; done) | (go_simp; with_reducible rfl)
  simp only [Act.put, List.setIfInBounds_toArray, List.set_cons_zero, List.set_cons_succ, List.getElem_toArray, List.getElem_cons_zero, List.getElem_cons_succ]
  refine wpAnyH_take (i := 3) (v := ?_) rfl (by kernel_rfl) (by kernel_rfl) (by kernel_rfl) (fun _ _ _ h => h) (Or.inl ⟨by rfl, ?_⟩) (by assumption) ?_
  rotate_left
  · intro wt hSt
    try dsimp only at hSt
    first | (go_simp; done) | (go_simp; with_reducible rfl)
  simp only [Act.put, List.setIfInBounds_toArray, List.set_cons_zero, List.set_cons_succ, List.getElem_toArray, List.getElem_cons_zero, List.getElem_cons_succ]
  refine wpAnyH_take (i := 4) (v := ?_) rfl (by kernel_rfl) (by kernel_rfl) (by kernel_rfl) (fun _ _ _ h => h) (Or.inl ⟨by rfl, ?_⟩) (by assumption) ?_
  rotate_left
  · intro wt hSt
    try dsimp only at hSt
    first | (go_simp; done) | (go_simp; with_reducible rfl)
  simp only [Act.put, List.setIfInBounds_toArray, List.set_cons_zero, List.set_cons_succ, List.getElem_toArray, List.getElem_cons_zero, List.getElem_cons_succ]
  refine wpAnyH_take (i := 5) (v := ?_) rfl (by kernel_rfl) (by kernel_rfl) (by kernel_rfl) (fun _ _ _ h => h) (Or.inl ⟨by rfl, ?_⟩) (by assumption) ?_
  rotate_left
  · intro wt hSt
    try dsimp only at hSt
    first | (go_simp; done) | (go_simp; with_reducible rfl)
  simp only [Act.put, List.setIfInBounds_toArray, List.set_cons_zero, List.set_cons_succ, List.getElem_toArray, List.getElem_cons_zero, List.getElem_cons_succ]
  refine wpAnyH_take (i := 8) (v := ?_) rfl (by kernel_rfl) (by kernel_rfl) (by kernel_rfl) (fun _ _ _ h => h) (Or.inl ⟨by rfl, ?_⟩) (by assumption) ?_
  rotate_left
  · intro wt hSt
    try dsimp only at hSt
    first | (go_simp; done) | (go_simp; with_reducible rfl)
  simp only [Act.put, List.setIfInBounds_toArray, List.set_cons_zero, List.set_cons_succ, List.getElem_toArray, List.getElem_cons_zero, List.getElem_cons_succ]
  refine wpAnyH_take (i := 9) (v := ?_) rfl (by kernel_rfl) (by kernel_rfl) (by kernel_rfl) (fun _ _ _ h => h) (Or.inl ⟨by rfl, ?_⟩) (by assumption) ?_
  rotate_left
  · intro wt hSt
    try dsimp only at hSt
    first | (go_simp; done) | (go_simp; with_reducible rfl)
  simp only [Act.put, List.setIfInBounds_toArray, List.set_cons_zero, List.set_cons_succ, List.getElem_toArray, List.getElem_cons_zero, List.getElem_cons_succ]
  refine wpAnyH_take (i := 10) (v := ?_) rfl (by kernel_rfl) (by kernel_rfl) (by kernel_rfl) (fun _ _ _ h => h) (Or.inl ⟨by rfl, ?_⟩) (by assumption) ?_
  rotate_left
  · intro wt hSt
    try dsimp only at hSt
    first | (go_simp; done) | (go_simp; with_reducible rfl)
  simp only [Act.put, List.setIfInBounds_toArray, List.set_cons_zero, List.set_cons_succ, List.getElem_toArray, List.getElem_cons_zero, List.getElem_cons_succ]
  refine wpAnyH_take (i := 11) (v := ?_) rfl (by kernel_rfl) (by kernel_rfl) (by kernel_rfl) (fun _ _ _ h => h) (Or.inl ⟨by rfl, ?_⟩) (by assumption) ?_
  rotate_left
  · intro wt hSt
    try dsimp only at hSt
    first | (go_simp; done) | (go_simp; with_reducible rfl)
  simp only [Act.put, List.setIfInBounds_toArray, List.set_cons_zero, List.set_cons_succ, List.getElem_toArray, List.getElem_cons_zero, List.getElem_cons_succ]
  refine wpAnyH_ready (rs := [6]) (by kernel_rfl) (by simp) ?_
  refine AllReadyH.cons rfl (fun K hK => ?_) AllReadyH.nil
  go_simp
  go_at_call 47
  refine (hCd _ _ _ ?_).out.mono ?_
  exact (hD _ (hA3.drewN 1)).out
  rintro e w4 ⟨D5, d5, rfl, hown4, hb4'⟩
  have hb4 : Below v3.heap.size v3 w4 := below_chain (bdrew (Below.refl _ _)) hb4'
  have hA4 := hA3.below hb4
  go_wp2_with fail
  refine hK.out _ _ ⟨(hq3.below hb4).get2.1.1, (hq3.below hb4).get2.1.2⟩ (fun hHeld => ?_)
  clear hK K
  refine wpAnyH_take (i := 7) (v := ?_) rfl (by kernel_rfl) (by kernel_rfl) (by kernel_rfl) (fun _ _ _ h => h) (Or.inl ⟨by rfl, ?_⟩) (by assumption) ?_
  rotate_left
  · intro wt hSt
    try dsimp only at hSt
    first | (go_simp; done) | (go_simp; with_reducible rfl)
  simp only [Act.put, List.setIfInBounds_toArray, List.set_cons_zero, List.set_cons_succ, List.getElem_toArray, List.getElem_cons_zero, List.getElem_cons_succ]
  refine wpAnyH_ready (rs := [12]) (by kernel_rfl) (by simp) ?_
  refine AllReadyH.cons rfl (fun K hK => ?_) AllReadyH.nil
  go_simp
  go_at_call 47
  refine (hCt _ _ _ ?_).out.mono ?_
  exact (hU _ hA4).out
  rintro e w5 ⟨E5, f5, rfl, hown5', hb5'⟩
  have hb5 : Below v3.heap.size v3 w5 := below_chain hb4 hb5'
  have hown5 : w5.ownsRow v3.heap.size 31 4 (.slice E5 U.length f5) U.length (qcells U) := own_baseQ hown5' hb4.size
  have hown4' : w5.ownsRow v3.heap.size 31 4 (.slice D5 T.length d5) T.length (qcells T) := own_baseQ (own_belowN hown4 hb5') (by simp)
  have hz5 := hz3.below hb5
  have hq5 := hq3.below hb5
  obtain ⟨⟨z50, z51⟩, ⟨e50, e51⟩⟩ := hz5.get2
  go_wp2_with fail
  refine hK.out _ _ ⟨(hq3.below hb5).get2.1.1, (hq3.below hb5).get2.1.2⟩ (fun hHeld => ?_)
  clear hK K
  refine wpAnyH_ready (rs := [13]) (by kernel_rfl) (by simp) ?_
  refine AllReadyH.cons rfl (fun K hK => ?_) AllReadyH.nil
  go_simp
  have hq9 := (hq5.far (h := w.heap.size + 1) (by omega) 0 (.int .i64 most)).far (h := w.heap.size + 1) (by omega) 1 (.slice D5 T.length d5)
  refine hK.out _ _ ⟨hq9.get2.1.1, hq9.get2.1.2⟩ (fun hHeld => ?_)
  clear hK K
  refine wpAnyH_take (i := 14) (v := ?_) rfl (by kernel_rfl) (by kernel_rfl) (by kernel_rfl) (fun _ _ _ h => h) (Or.inl ⟨by rfl, ?_⟩) (by assumption) ?_
  rotate_left
  · intro wt hSt
    try dsimp only at hSt
    first | (go_simp; done) | (go_simp; with_reducible rfl)
  simp only [Act.put, List.setIfInBounds_toArray, List.set_cons_zero, List.set_cons_succ, List.getElem_toArray, List.getElem_cons_zero, List.getElem_cons_succ]
  refine wpAnyH_take (i := 15) (v := ?_) rfl (by kernel_rfl) (by kernel_rfl) (by kernel_rfl) (fun _ _ _ h => h) (Or.inl ⟨by rfl, ?_⟩) (by assumption) ?_
  rotate_left
  · intro wt hSt
    try dsimp only at hSt
    first | (go_simp; done) | (go_simp; with_reducible rfl)
  simp only [Act.put, List.setIfInBounds_toArray, List.set_cons_zero, List.set_cons_succ, List.getElem_toArray, List.getElem_cons_zero, List.getElem_cons_succ]
  refine wpAnyH_done (by kernel_rfl) ?_ _
  have hz9 := hz5.set2 (.int .i64 most) (.slice D5 T.length d5)
  have hb9 := below_set2 (below_chain hb3 hb5) (by omega : w.heap.size ≤ w.heap.size + 1) (.int .i64 most) (.slice D5 T.length d5)
  have hg9 := (grown_setQ w5 ⟨w.heap.size + 1, 0, none⟩ (.int .i64 most)).trans (grown_setQ _ ⟨w.heap.size + 1, 1, none⟩ (.slice D5 T.length d5))
  have hown9 := own_baseQ (hown4'.kept hg9 (.inr fun e => absurd (hown4'.lt _ e).1 (by show ¬ v3.heap.size ≤ w.heap.size + 1; omega))) hs3
  have hown8 := own_baseQ (hown5.kept hg9 (.inr fun e => absurd (hown5.lt _ e).1 (by show ¬ v3.heap.size ≤ w.heap.size + 1; omega))) hs3
  go_wp2
  generalize (w5.setCell ⟨w.heap.size + 1, 0, none⟩ (.int .i64 most)).setCell ⟨w.heap.size + 1, 1, none⟩ (.slice D5 T.length d5) = w9 at *
  obtain ⟨⟨r0, r1⟩, _⟩ := hz9.get2
  refine bodyPost_ret (v := .tuple #[.agg #[.int .i64 most, (.slice D5 T.length d5)], .slice E5 U.length f5, .int .i64 0]) ?_ rfl ⟨D5, d5, E5, f5, rfl, hown9, hown8, hb9⟩
  rw [results_cell_tmp2 rfl]
  go_simp
-- END B
theorem queueTake_ok (most : Int) (A : Option Addr) (c : Nat) (l : List Ak) (n j : Nat) (w : World) (hg : QGood most l) (hl : ∀ x ∈ l, AkFits x) (hc : l.length ≤ c) (hA : Row w A (qcells l))
    (hj : j = min n l.length) :
    Calls Tryz.prog 50 #[.agg #[.int .i64 most, .slice A l.length c], .int .i64 (n : Int)] w (TakeGives most (l.drop j) (l.take j) w) := by
  by_cases hcj : c = j
  · exact queueTake_okA most A c l n j w hg hl hc hA hj hcj
  · exact queueTake_okB most A c l n j w hg hl hc hA hj hcj
/-- The arguments of Wait are in their ranges. -/
abbrev WaitOk (a b k : Int) : Prop := (0 ≤ a ∧ a ≤ 30) ∧ (1 ≤ b ∧ b ≤ 30) ∧ 1 ≤ k ∧ k ≤ 1000
theorem in_iff (n a b : Int) : (decide (a ≤ n) && decide (n ≤ b)) = true ↔ a ≤ n ∧ n ≤ b := by rw [Bool.and_eq_true, decide_eq_true_eq, decide_eq_true_eq]
set_option maxHeartbeats 1000000 in
theorem queueWait_no (a b k : Int) (w : World) (h : ¬ WaitOk a b k) :
    Calls Tryz.prog 18 #[.int .i64 a, .int .i64 b, .int .i64 k] w fun e w' => e = .returned (.tuple #[.int .i64 0, .int .i64 4]) ∧ w = w' := by
  have h1 := fun w => Lib.hid (queueWithin a 0 30 w _ rfl)
  have h2 := fun w => Lib.hid (queueWithin b 1 30 w _ rfl)
  have h3 := fun w => Lib.hid (queueWithin k 1 1000 w _ rfl)
  have i1 := in_iff a 0 30
  have i2 := in_iff b 1 30
  have i3 := in_iff k 1 1000
  unfold WaitOk at h
  cases c1 : (decide (0 ≤ a) && decide (a ≤ 30)) with
  | false =>
    rw [c1] at h1
    clear c1 i1 i2 i3 h h2 h3
    go_enter Tryz.func18, Tryz.ntmps18
    go_wp2_with fail
    refine (h1 _).out.mono ?_
    rintro e w1 ⟨rfl, rfl⟩
    go_wp2
    go_ret2
    exact ⟨rfl, rfl⟩
  | true =>
  cases c2 : (decide (1 ≤ b) && decide (b ≤ 30)) with
  | false =>
    rw [c1] at h1
    rw [c2] at h2
    clear c1 c2 i1 i2 i3 h h3
    go_enter Tryz.func18, Tryz.ntmps18
    go_wp2_with fail
    refine (h1 _).out.mono ?_
    rintro e w1 ⟨rfl, rfl⟩
    go_wp2_with fail
    refine (h2 _).out.mono ?_
    rintro e w1 ⟨rfl, rfl⟩
    go_wp2
    go_ret2
    exact ⟨rfl, rfl⟩
  | true =>
  cases c3 : (decide (1 ≤ k) && decide (k ≤ 1000)) with
  | false =>
    rw [c1] at h1
    rw [c2] at h2
    rw [c3] at h3
    clear c1 c2 c3 i1 i2 i3 h
    go_enter Tryz.func18, Tryz.ntmps18
    go_wp2_with fail
    refine (h1 _).out.mono ?_
    rintro e w1 ⟨rfl, rfl⟩
    go_wp2_with fail
    refine (h2 _).out.mono ?_
    rintro e w1 ⟨rfl, rfl⟩
    go_wp2_with fail
    refine (h3 _).out.mono ?_
    rintro e w1 ⟨rfl, rfl⟩
    go_wp2
    go_ret2
    exact ⟨rfl, rfl⟩
  | true => exact absurd ⟨i1.1 c1, i2.1 c2, i3.1 c3⟩ h
set_option maxHeartbeats 1000000 in
theorem queueWait_ok (a b k : Nat) (w : World) (ha : a ≤ 30) (hb1 : 1 ≤ b) (hb : b ≤ 30) (hk1 : 1 ≤ k) (hk : k ≤ 1000) (r : Nat) (hr : (a / b + 1) * k = r) :
    Calls Tryz.prog 18 #[.int .i64 (a : Int), .int .i64 (b : Int), .int .i64 (k : Int)] w fun e w' => e = .returned (.tuple #[.int .i64 (r : Int), .int .i64 0]) ∧ w = w' := by
  have h1 := fun w => Lib.hid (queueWithin (a : Int) 0 30 w true ((in_iff _ _ _).2 (by omega)))
  have h2 := fun w => Lib.hid (queueWithin (b : Int) 1 30 w true ((in_iff _ _ _).2 (by omega)))
  have h3 := fun w => Lib.hid (queueWithin (k : Int) 1 1000 w true ((in_iff _ _ _).2 (by omega)))
  have hq : a / b ≤ 30 := Nat.le_trans (Nat.div_le_self a b) ha
  have hr9 : (a / b + 1) * k ≤ 31 * 1000 := Nat.mul_le_mul (by omega) hk
  have hE : wrap64 (wrap64 (wrap64 ((a : Int) / (b : Int)) + 1) * (k : Int)) = (r : Int) := by
    rw [← Int.natCast_ediv]
    clear h1 h2 h3
    generalize a / b = q at *
    have e1 : wrap64 (q : Int) = (q : Int) := by unfold wrap64; omega
    have e2 : wrap64 ((q : Int) + 1) = ((q + 1 : Nat) : Int) := by unfold wrap64; omega
    have e3 : ((r : Nat) : Int) ≤ 31 * 1000 := by omega
    rw [e1, e2, ← Int.natCast_mul, hr]
    unfold wrap64
    omega
  have HE := Lib.hid hE
  clear hE hr9 hq hr
  have hb0 : ((b : Int) == 0) = false := beq_eq_false_iff_ne.2 (by omega)
  go_enter Tryz.func18, Tryz.ntmps18
  go_wp2_with fail
  refine (h1 _).out.mono ?_
  rintro e w1 ⟨rfl, rfl⟩
  go_wp2_with fail
  refine (h2 _).out.mono ?_
  rintro e w1 ⟨rfl, rfl⟩
  go_wp2_with fail
  refine (h3 _).out.mono ?_
  rintro e w1 ⟨rfl, rfl⟩
  go_wp2
  go_ret2
  exact ⟨by rw [← HE.out]; rfl, rfl⟩
end Go.Proofs.YtjcockcilkiggaaGreat
