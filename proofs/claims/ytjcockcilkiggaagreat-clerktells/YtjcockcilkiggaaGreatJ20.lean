/- Package queue: Put appends a request and returns how many were ahead of it, or the error. It writes nothing that was there. -/
import Derived.Test.YtjcockcilkiggaaGreatJ19
import Derived.Test.YtjcockcilkiggaaGreatJ17
import Derived.Deep.RegionHeld3
namespace Go.Proofs.YtjcockcilkiggaaGreat
set_option maxRecDepth 100000
open Go.RowKit

theorem results_cell_tmp2 {fn : Func} {p u v : Tmp} {ty : TypeId} (h : fn.results = #[.cell p ty, .tmp u, .tmp v]) (tmps : Array Value) (P : Program) (w : World) :
    (results fn tmps).run P w =
      ((asAddr (tmps.getD p undef)).run P w).andThen fun a w₁ => ((loadVar ty a).run P w₁).andThen fun x w₂ => .ok (.tuple #[x, tmps.getD u undef, tmps.getD v undef]) w₂ := by
  simp only [results, h]
  simp [Sem.run_bind, Result.andThen]
theorem Bx.get2 {w : World} {g : Nat} {a b : Value} (h : Bx w g [a, b]) :
    (w.cell? ⟨g, 0, none⟩ = some a ∧ w.cell? ⟨g, 1, none⟩ = some b) ∧ (w.frozen? ⟨g, 0, none⟩ = false ∧ w.frozen? ⟨g, 1, none⟩ = false) :=
  ⟨⟨h.c 0 (by simp), h.c 1 (by simp)⟩, ⟨h.f 0 (by simp), h.f 1 (by simp)⟩⟩
theorem Bx.set2 {w : World} {g : Nat} {a b : Value} (h : Bx w g [a, b]) (x y : Value) : Bx ((w.setCell ⟨g, 0, none⟩ x).setCell ⟨g, 1, none⟩ y) g [x, y] := (h.set 0 x).set 1 y
theorem below_set2 {B : Nat} {w w' : World} (hb : Below B w w') {g : Nat} (hg : B ≤ g) (x y : Value) :
    Below B w ((w'.setCell ⟨g, 0, none⟩ x).setCell ⟨g, 1, none⟩ y) := (hb.setCell (p := ⟨g, 0, none⟩) hg x).setCell (p := ⟨g, 1, none⟩) hg y

theorem grown_setQ (w : World) (a : Addr) (u : Value) : w.grownBy (w.setCell a u) (some a.block) :=
  ⟨rfl, rfl, rfl, by simp [World.setCell], fun k _ hk => Below.heap_setCell _ _ _ k (fun e => hk (by rw [e]))⟩
theorem Bx.far {w : World} {g h : Nat} {vs : List Value} (b : Bx w g vs) (ne : g ≠ h) (j : Nat) (v : Value) : Bx (w.setCell ⟨h, j, none⟩ v) g vs :=
  ⟨fun k hk => (World.cell?_setCell_other w ⟨h, j, none⟩ ⟨g, k, none⟩ v (by first | (simp; done) | (simp; omega))).trans (b.c k hk), fun k hk => by rw [World.frozen?_setCell]; exact b.f k hk⟩
/-- The error of Put. -/
def putErr (most : Int) (l : List Ak) (a : Ak) : Int :=
  if qfault most l = 0 then (if askFault a.1 a.2.1 = 0 then (if (l.length : Int) = most then 7 else 0) else askFault a.1 a.2.1) else qfault most l
/-- No queue, and an error. -/
def QueueNo (v : Value) (r : Int) (w : World) (e : Ending) (w' : World) : Prop := e = .returned (.tuple #[.agg #[.int .i64 0, .slice none 0 0], v, .int .i64 r]) ∧ Below w.heap.size w w'

set_option maxHeartbeats 1000000 in
theorem queuePut_no (most : Int) (A : Option Addr) (c : Nat) (l : List Ak) (n v : Bytes) (x t : Nat) (w : World) (hm : l.length ≤ maxLen) (hl : ∀ x ∈ l, AkFits x) (hn : n.length ≤ maxLen) (hv : v.length ≤ maxLen) (hA : Row w A (qcells l))
    (r : Int) (hr : putErr most l (n, v, x, t) = r) (h0 : r ≠ 0) :
    Calls Tryz.prog 45 #[.agg #[.int .i64 most, .slice A l.length c], .agg #[.string (S n), .string (S v), .int .u64 (x : Int), .int .u64 (t : Int)]] w (QueueNo (.int .i64 0) r w) := by
  have hC := fun (w : World) hA => Lib.hid (queueCheck most A c l w hm hl hA _ rfl)
  have hF := fun w => Lib.hid (queueAsk n v x t w hn hv _ rfl)
  have hq0 := ((Bx.new w _ rfl _ [.int .i64 most, .slice A l.length c] 24 rfl).alloc (.cells #[.string (S n), .string (S v), .int .u64 (x : Int), .int .u64 (t : Int)] 31)).alloc (.cells #[.int .i64 0, .slice none 0 0] 24)
  have ha0 := (Bx.new (w.alloc (.cells #[.int .i64 most, .slice A l.length c] 24)) (w.heap.size + 1) (by simp) _ [.string (S n), .string (S v), .int .u64 (x : Int), .int .u64 (t : Int)] 31 rfl).alloc (.cells #[.int .i64 0, .slice none 0 0] 24)
  have hz0 := Bx.new ((w.alloc (.cells #[.int .i64 most, .slice A l.length c] 24)).alloc (.cells #[.string (S n), .string (S v), .int .u64 (x : Int), .int .u64 (t : Int)] 31)) (w.heap.size + 2) (by simp) _ [.int .i64 0, .slice none 0 0] 24 rfl
  have hb0 : Below w.heap.size w (((w.alloc (.cells #[.int .i64 most, .slice A l.length c] 24)).alloc (.cells #[.string (S n), .string (S v), .int .u64 (x : Int), .int .u64 (t : Int)] 31)).alloc (.cells #[.int .i64 0, .slice none 0 0] 24)) := (((Below.refl _ _).alloc (Nat.le_refl _) _).alloc (by simp) _).alloc (by simp; omega) _
  have hA0 := ((hA.alloc (.cells #[.int .i64 most, .slice A l.length c] 24)).alloc (.cells #[.string (S n), .string (S v), .int .u64 (x : Int), .int .u64 (t : Int)] 31)).alloc (.cells #[.int .i64 0, .slice none 0 0] 24)
  obtain ⟨⟨q0, q1⟩, _⟩ := hq0.get2
  have c0 : (r != 0) = true := bne_iff_ne.2 h0
  unfold putErr at hr
  dsimp only at hr
  by_cases k0 : qfault most l = 0
  · rw [if_pos k0] at hr
    rw [k0] at hC
    by_cases k1 : askFault n v = 0
    · rw [if_pos k1] at hr
      rw [k1] at hF
      by_cases k2 : (l.length : Int) = most
      · rw [if_pos k2] at hr
        subst hr
        have c1 : ((l.length : Int) == most) = true := beq_iff_eq.2 k2
        clear k0 k1 k2 hm hl hn hv hA h0 c0
        go_enter Tryz.func45, Tryz.ntmps45
        go_wp2_with fail
        refine (hC _ hA0).out.mono ?_
        rintro e w1 ⟨rfl, hb1⟩
        have hb2 := below_chain hb0 hb1
        have hz2 := hz0.below hb1
        have hq2 := hq0.below hb1
        have ha2 := ha0.below hb1
        clear hC hA0 q0 q1 hz0 hq0 ha0 hb0 hb1
        obtain ⟨⟨a0, a1, a2, a3⟩, _⟩ := ha2.get4
        go_wp2_with fail
        refine (hF _).out.mono ?_
        rintro e w2 ⟨rfl, hb1⟩
        have hb3 := below_chain hb2 hb1
        have hz3 := hz2.below hb1
        have hq3 := hq2.below hb1
        clear hF a0 a1 a2 a3 hz2 hq2 ha2 hb2 hb1
        obtain ⟨⟨q0, q1⟩, _⟩ := hq3.get2
        obtain ⟨⟨z0, z1⟩, ⟨e0, e1⟩⟩ := hz3.get2
        have hz9 := hz3.set2 (.int .i64 0) (.slice none 0 0)
        have hb9 := below_set2 hb3 (by omega : w.heap.size ≤ w.heap.size + 2) (.int .i64 0) (.slice none 0 0)
        clear hz3 hq3 hb3
        go_wp2
        generalize (w2.setCell ⟨w.heap.size + 2, 0, none⟩ (.int .i64 0)).setCell ⟨w.heap.size + 2, 1, none⟩ (.slice none 0 0) = w9 at *
        obtain ⟨⟨r0, r1⟩, _⟩ := hz9.get2
        refine bodyPost_ret (v := .tuple #[.agg #[.int .i64 0, .slice none 0 0], .int .i64 0, .int .i64 7]) ?_ rfl ⟨rfl, hb9⟩
        rw [results_cell_tmp2 rfl]
        go_simp
      · rw [if_neg k2] at hr
        exact absurd hr.symm h0
    · rw [if_neg k1] at hr
      rw [hr] at hF
      clear k0 k1 hm hl hn hv hA h0 hr
      go_enter Tryz.func45, Tryz.ntmps45
      go_wp2_with fail
      refine (hC _ hA0).out.mono ?_
      rintro e w1 ⟨rfl, hb1⟩
      have hb2 := below_chain hb0 hb1
      have hz2 := hz0.below hb1
      have ha2 := ha0.below hb1
      clear hC hA0 q0 q1 hz0 hq0 ha0 hb0 hb1
      obtain ⟨⟨a0, a1, a2, a3⟩, _⟩ := ha2.get4
      go_wp2_with fail
      refine (hF _).out.mono ?_
      rintro e w2 ⟨rfl, hb1⟩
      have hb3 := below_chain hb2 hb1
      have hz3 := hz2.below hb1
      clear hF a0 a1 a2 a3 hz2 ha2 hb2 hb1
      obtain ⟨⟨z0, z1⟩, ⟨e0, e1⟩⟩ := hz3.get2
      have hz9 := hz3.set2 (.int .i64 0) (.slice none 0 0)
      have hb9 := below_set2 hb3 (by omega : w.heap.size ≤ w.heap.size + 2) (.int .i64 0) (.slice none 0 0)
      clear hz3 hb3
      go_wp2
      generalize (w2.setCell ⟨w.heap.size + 2, 0, none⟩ (.int .i64 0)).setCell ⟨w.heap.size + 2, 1, none⟩ (.slice none 0 0) = w9 at *
      obtain ⟨⟨r0, r1⟩, _⟩ := hz9.get2
      refine bodyPost_ret (v := .tuple #[.agg #[.int .i64 0, .slice none 0 0], .int .i64 0, .int .i64 r]) ?_ rfl ⟨rfl, hb9⟩
      rw [results_cell_tmp2 rfl]
      go_simp
  · rw [if_neg k0] at hr
    rw [hr] at hC
    clear k0 hm hl hn hv hA h0 hr hF
    go_enter Tryz.func45, Tryz.ntmps45
    go_wp2_with fail
    refine (hC _ hA0).out.mono ?_
    rintro e w1 ⟨rfl, hb1⟩
    have hb3 := below_chain hb0 hb1
    have hz3 := hz0.below hb1
    clear hC hA0 q0 q1 hz0 hq0 ha0 hb0 hb1
    obtain ⟨⟨z0, z1⟩, ⟨e0, e1⟩⟩ := hz3.get2
    have hz9 := hz3.set2 (.int .i64 0) (.slice none 0 0)
    have hb9 := below_set2 hb3 (by omega : w.heap.size ≤ w.heap.size + 2) (.int .i64 0) (.slice none 0 0)
    clear hz3 hb3
    go_wp2
    generalize (w1.setCell ⟨w.heap.size + 2, 0, none⟩ (.int .i64 0)).setCell ⟨w.heap.size + 2, 1, none⟩ (.slice none 0 0) = w9 at *
    obtain ⟨⟨r0, r1⟩, _⟩ := hz9.get2
    refine bodyPost_ret (v := .tuple #[.agg #[.int .i64 0, .slice none 0 0], .int .i64 0, .int .i64 r]) ?_ rfl ⟨rfl, hb9⟩
    rw [results_cell_tmp2 rfl]
    go_simp
/-- A queue with a row of the call's own, a second result, and no error. -/
def QueueGives (most : Int) (T : List Ak) (v : Value) (w : World) (e : Ending) (w' : World) : Prop :=
  ∃ D d, e = .returned (.tuple #[.agg #[.int .i64 most, .slice D T.length d], v, .int .i64 0]) ∧ w'.ownsRow w.heap.size 31 4 (.slice D T.length d) T.length (qcells T) ∧ Below w.heap.size w w'
set_option maxHeartbeats 4000000 in
theorem queuePut_ok (most : Int) (A : Option Addr) (c : Nat) (l : List Ak) (n v : Bytes) (x t : Nat) (w : World) (hg : QGood most l) (hl : ∀ x ∈ l, AkFits x) (hn : n.length ≤ maxLen) (hv : v.length ≤ maxLen) (hA : Row w A (qcells l))
    (ha : askFault n v = 0) (hlt : (l.length : Int) < most) :
    Calls Tryz.prog 45 #[.agg #[.int .i64 most, .slice A l.length c], .agg #[.string (S n), .string (S v), .int .u64 (x : Int), .int .u64 (t : Int)]] w (QueueGives most (l ++ [(n, v, x, t)]) (.int .i64 (l.length : Int)) w) := by
  have hlen : l.length ≤ 30 := by have := hg.m30; omega
  have hC := fun (w : World) hA => Lib.hid (queueCheck most A c l w (by unfold maxLen; omega) hl hA 0 ((qfault_ok most l).2 hg))
  have hF := fun w => Lib.hid (queueAsk n v x t w hn hv 0 ha)
  have hl48 : l.length * 48 ≤ 140737488351232 := by omega
  have hCl := fun (w : World) hA => Lib.hid (cloneAsks0 A c l w hl48 hA)
  have hq0 := ((Bx.new w _ rfl _ [.int .i64 most, .slice A l.length c] 24 rfl).alloc (.cells #[.string (S n), .string (S v), .int .u64 (x : Int), .int .u64 (t : Int)] 31)).alloc (.cells #[.int .i64 0, .slice none 0 0] 24)
  have ha0 := (Bx.new (w.alloc (.cells #[.int .i64 most, .slice A l.length c] 24)) (w.heap.size + 1) (by simp) _ [.string (S n), .string (S v), .int .u64 (x : Int), .int .u64 (t : Int)] 31 rfl).alloc (.cells #[.int .i64 0, .slice none 0 0] 24)
  have hz0 := Bx.new ((w.alloc (.cells #[.int .i64 most, .slice A l.length c] 24)).alloc (.cells #[.string (S n), .string (S v), .int .u64 (x : Int), .int .u64 (t : Int)] 31)) (w.heap.size + 2) (by simp) _ [.int .i64 0, .slice none 0 0] 24 rfl
  have hb0 : Below w.heap.size w (((w.alloc (.cells #[.int .i64 most, .slice A l.length c] 24)).alloc (.cells #[.string (S n), .string (S v), .int .u64 (x : Int), .int .u64 (t : Int)] 31)).alloc (.cells #[.int .i64 0, .slice none 0 0] 24)) := (((Below.refl _ _).alloc (Nat.le_refl _) _).alloc (by simp) _).alloc (by simp; omega) _
  have hA0 := ((hA.alloc (.cells #[.int .i64 most, .slice A l.length c] 24)).alloc (.cells #[.string (S n), .string (S v), .int .u64 (x : Int), .int .u64 (t : Int)] 31)).alloc (.cells #[.int .i64 0, .slice none 0 0] 24)
  obtain ⟨⟨q0, q1⟩, _⟩ := hq0.get2
  have c1 : ((l.length : Int) == most) = false := beq_eq_false_iff_ne.2 (by omega)
  have hsm : (l.length + [((n, v, x, t) : Ak)].length) * 48 ≤ 140737488355328 := by simp; omega
  obtain ⟨T, hT⟩ : ∃ T, l ++ [((n, v, x, t) : Ak)] = T := ⟨_, rfl⟩
  rw [hT]
  have HT := Lib.hid hT
  clear hT
  clear hg hl hn hv hA ha hlt
  go_enter Tryz.func45, Tryz.ntmps45
  go_wp2_with fail
  refine (hC _ hA0).out.mono ?_
  rintro e w1 ⟨rfl, hb1⟩
  have hb2 := below_chain hb0 hb1
  have hz2 := hz0.below hb1
  have hq2 := hq0.below hb1
  have ha2 := ha0.below hb1
  have hA2 := hA0.below hb1
  clear hC hA0 q0 q1 hz0 hq0 ha0 hb0 hb1
  obtain ⟨⟨a0, a1, a2, a3⟩, _⟩ := ha2.get4
  go_wp2_with fail
  refine (hF _).out.mono ?_
  rintro e v3 ⟨rfl, hb1⟩
  have hb3 := below_chain hb2 hb1
  have hz3 := hz2.below hb1
  have hq3 := hq2.below hb1
  have ha3 := ha2.below hb1
  have hA3 := hA2.below hb1
  clear hF a0 a1 a2 a3 hz2 hq2 ha2 hb2 hA2 hb1
  obtain ⟨⟨q0, q1⟩, _⟩ := hq3.get2
  obtain ⟨⟨z0, z1⟩, ⟨e0, e1⟩⟩ := hz3.get2
  obtain ⟨⟨a0, a1, a2, a3⟩, _⟩ := ha3.get4
  go_wp2_with fail
-- REGION
  have hs3 := hb3.size
  have hzl := hz3.lt
  refine wp_region_held_drew (S := fun W => W.cell? ⟨w.heap.size, 0, none⟩ = some (.int .i64 most) ∧ W.cell? ⟨w.heap.size, 1, none⟩ = some (.slice A l.length c) ∧ W.cell? ⟨w.heap.size + 1, 0, none⟩ = some (.string (S n)) ∧ W.cell? ⟨w.heap.size + 1, 1, none⟩ = some (.string (S v)) ∧ W.cell? ⟨w.heap.size + 1, 2, none⟩ = some (.int .u64 (x : Int)) ∧ W.cell? ⟨w.heap.size + 1, 3, none⟩ = some (.int .u64 (t : Int))) (by kernel_rfl) ⟨q0, q1, a0, a1, a2, a3⟩ (fun hHeld => ?_)
  refine wpAnyH_take (i := 0) (v := ?_) rfl (by kernel_rfl) (by kernel_rfl) (by kernel_rfl) (fun _ _ _ h => h) (Or.inl ⟨by rfl, ?_⟩) (by assumption) ?_
  rotate_left
  · intro wt hSt
    try dsimp only at hSt
    first | (go_simp; done) | (go_simp; with_reducible rfl)
  simp only [Act.put, List.setIfInBounds_toArray, List.set_cons_zero, List.set_cons_succ, List.getElem_toArray, List.getElem_cons_zero]
  refine wpAnyH_take (i := 1) (v := ?_) rfl (by kernel_rfl) (by kernel_rfl) (by kernel_rfl) (fun _ _ _ h => h) (Or.inl ⟨by rfl, ?_⟩) (by assumption) ?_
  rotate_left
  · intro wt hSt
    try dsimp only at hSt
    first | (go_simp; done) | (go_simp; with_reducible rfl)
  simp only [Act.put, List.setIfInBounds_toArray, List.set_cons_zero, List.set_cons_succ, List.getElem_toArray, List.getElem_cons_zero, List.getElem_cons_succ]
  refine wpAnyH_take (i := 2) (v := ?_) rfl (by kernel_rfl) (by kernel_rfl) (by kernel_rfl) (fun _ _ _ h => h) (Or.inl ⟨by rfl, ?_⟩) (by assumption) ?_
  rotate_left
  · intro wt hSt
    try dsimp only at hSt
    first | (go_simp; done) | (go_simp; with_reducible rfl)
  simp only [Act.put, List.setIfInBounds_toArray, List.set_cons_zero, List.set_cons_succ, List.getElem_toArray, List.getElem_cons_zero, List.getElem_cons_succ]
  refine wpAnyH_take (i := 3) (v := ?_) rfl (by kernel_rfl) (by kernel_rfl) (by kernel_rfl) (fun _ _ _ h => h) (Or.inl ⟨by rfl, ?_⟩) (by assumption) ?_
  rotate_left
  · intro wt hSt
    try dsimp only at hSt
    first | (go_simp; done) | (go_simp; with_reducible rfl)
  simp only [Act.put, List.setIfInBounds_toArray, List.set_cons_zero, List.set_cons_succ, List.getElem_toArray, List.getElem_cons_zero, List.getElem_cons_succ]
  refine wpAnyH_take (i := 5) (v := ?_) rfl (by kernel_rfl) (by kernel_rfl) (by kernel_rfl) (fun _ _ _ h => h) (Or.inl ⟨by rfl, ?_⟩) (by assumption) ?_
  rotate_left
  · intro wt hSt
    try dsimp only at hSt
    first | (go_simp; done) | (go_simp; with_reducible rfl)
  simp only [Act.put, List.setIfInBounds_toArray, List.set_cons_zero, List.set_cons_succ, List.getElem_toArray, List.getElem_cons_zero, List.getElem_cons_succ]
  refine wpAnyH_take (i := 9) (v := ?_) rfl (by kernel_rfl) (by kernel_rfl) (by kernel_rfl) (fun _ _ _ h => h) (Or.inl ⟨by rfl, ?_⟩) (by assumption) ?_
  rotate_left
  · intro wt hSt
    try dsimp only at hSt
    first | (go_simp; done) | (go_simp; with_reducible rfl)
  simp only [Act.put, List.setIfInBounds_toArray, List.set_cons_zero, List.set_cons_succ, List.getElem_toArray, List.getElem_cons_zero, List.getElem_cons_succ]
  refine wpAnyH_ready (rs := [4, 6]) (by kernel_rfl) (by simp) ?_
  refine AllReadyH.cons rfl (fun K hK => ?_) (AllReadyH.cons rfl (fun K hK => ?_) (AllReadyH.nil))
  · skip
    go_simp
    go_at_call 47
    refine (hCl _ (hA3.drewN 1)).out.mono ?_
    rintro e w4 ⟨D, d, rfl, hown, hb5⟩
    have hbX : Below v3.heap.size v3 w4 := below_chain (bdrew (Below.refl _ _)) hb5
    have hownA : w4.ownsRow v3.heap.size 31 4 (.slice D l.length d) l.length (qcells l) := own_baseQ hown (by simp)
    go_wp2_with fail
    refine hK.out _ _ ⟨(hq3.below hbX).get2.1.1, (hq3.below hbX).get2.1.2, (ha3.below hbX).get4.1⟩ (fun hHeld => ?_)
    clear hK K
    refine wpAnyH_ready (rs := [6]) (by kernel_rfl) (by simp) ?_
    refine AllReadyH.cons rfl (fun K hK => ?_) (AllReadyH.nil)
    go_simp
    have hbB : Below v3.heap.size v3 (w4.alloc (.cells #[.string (S n), .string (S v), .int .u64 (x : Int), .int .u64 (t : Int)] 31)) := balloc hbX _
    have hownB := hownA.alloc (.cells #[.string (S n), .string (S v), .int .u64 (x : Int), .int .u64 (t : Int)] 31)
    refine hK.out _ _ ⟨(hq3.below hbB).get2.1.1, (hq3.below hbB).get2.1.2, (ha3.below hbB).get4.1⟩ (fun hHeld => ?_)
    clear hK K
    refine wpAnyH_ready (rs := [7]) (by kernel_rfl) (by simp) ?_
    refine AllReadyH.cons rfl (fun K hK => ?_) (AllReadyH.nil)
    refine step_app_asks0 rfl (.tmp 34) (.tmp 36) rfl v3.heap.size _ l ?_ hownB (some ⟨w4.heap.size, 0, none⟩) 1 [(n, v, x, t)] ?_ (ask_one w4 (n, v, x, t) _) hsm ?_ ?_
    · first | rfl | simp [Act.eval, Act.put]
    · first | rfl | simp [Act.eval, Act.put]
    · exact hbB.size
    intro v5 w5 hown5 hgrow5
    rw [HT.out] at hown5
    have hbC : Below v3.heap.size v3 w5 := hbB.grown hgrow5 hbB.size (fun j hj => (hownB.lt j hj).1)
    obtain ⟨D5, d5, rfl⟩ := own_shape hown5
    have hz5 := hz3.below hbC
    have hq5 := hq3.below hbC
    have ha5 := ha3.below hbC
    obtain ⟨⟨z50, z51⟩, ⟨e50, e51⟩⟩ := hz5.get2
    refine hK.out _ _ ⟨(hq3.below hbC).get2.1.1, (hq3.below hbC).get2.1.2, (ha3.below hbC).get4.1⟩ (fun hHeld => ?_)
    clear hK K
    try simp only [Act.put, List.setIfInBounds_toArray, List.set_cons_zero, List.set_cons_succ, List.getElem_toArray, List.getElem_cons_zero, List.getElem_cons_succ]
    refine wpAnyH_take (i := 8) (v := ?_) rfl (by kernel_rfl) (by kernel_rfl) (by kernel_rfl) (fun _ _ _ h => h) (Or.inl ⟨by rfl, ?_⟩) (by assumption) ?_
    rotate_left
    · intro wt hSt
      try dsimp only at hSt
      first | (go_simp; done) | (go_simp; with_reducible rfl)
    simp only [Act.put, List.setIfInBounds_toArray, List.set_cons_zero, List.set_cons_succ, List.getElem_toArray, List.getElem_cons_zero, List.getElem_cons_succ]
    refine wpAnyH_ready (rs := [10]) (by kernel_rfl) (by simp) ?_
    refine AllReadyH.cons rfl (fun K hK => ?_) (AllReadyH.nil)
    go_simp
    have hq9 := (hq5.far (h := w.heap.size + 2) (by omega) 0 (.int .i64 most)).far (h := w.heap.size + 2) (by omega) 1 (.slice D5 T.length d5)
    have ha9 := (ha5.far (h := w.heap.size + 2) (by omega) 0 (.int .i64 most)).far (h := w.heap.size + 2) (by omega) 1 (.slice D5 T.length d5)
    refine hK.out _ _ ⟨hq9.get2.1.1, hq9.get2.1.2, ha9.get4.1⟩ (fun hHeld => ?_)
    clear hK K
    refine wpAnyH_take (i := 11) (v := ?_) rfl (by kernel_rfl) (by kernel_rfl) (by kernel_rfl) (fun _ _ _ h => h) (Or.inl ⟨by rfl, ?_⟩) (by assumption) ?_
    rotate_left
    · intro wt hSt
      try dsimp only at hSt
      first | (go_simp; done) | (go_simp; with_reducible rfl)
    simp only [Act.put, List.setIfInBounds_toArray, List.set_cons_zero, List.set_cons_succ, List.getElem_toArray, List.getElem_cons_zero, List.getElem_cons_succ]
    refine wpAnyH_take (i := 12) (v := ?_) rfl (by kernel_rfl) (by kernel_rfl) (by kernel_rfl) (fun _ _ _ h => h) (Or.inl ⟨by rfl, ?_⟩) (by assumption) ?_
    rotate_left
    · intro wt hSt
      try dsimp only at hSt
      first | (go_simp; done) | (go_simp; with_reducible rfl)
    simp only [Act.put, List.setIfInBounds_toArray, List.set_cons_zero, List.set_cons_succ, List.getElem_toArray, List.getElem_cons_zero, List.getElem_cons_succ]
    refine wpAnyH_done (by kernel_rfl) ?_ _
    have hz9 := hz5.set2 (.int .i64 most) (.slice D5 T.length d5)
    have hb9 := below_set2 (below_chain hb3 hbC) (by omega : w.heap.size ≤ w.heap.size + 2) (.int .i64 most) (.slice D5 T.length d5)
    have hg9 := (grown_setQ w5 ⟨w.heap.size + 2, 0, none⟩ (.int .i64 most)).trans (grown_setQ _ ⟨w.heap.size + 2, 1, none⟩ (.slice D5 T.length d5))
    have hown9 := own_baseQ (hown5.kept hg9 (.inr fun e => absurd (hown5.lt _ e).1 (by show ¬ v3.heap.size ≤ w.heap.size + 2; omega))) hs3
    go_wp2
    generalize (w5.setCell ⟨w.heap.size + 2, 0, none⟩ (.int .i64 most)).setCell ⟨w.heap.size + 2, 1, none⟩ (.slice D5 T.length d5) = w9 at *
    obtain ⟨⟨r0, r1⟩, _⟩ := hz9.get2
    refine bodyPost_ret (v := .tuple #[.agg #[.int .i64 most, .slice D5 T.length d5], .int .i64 (l.length : Int), .int .i64 0]) ?_ rfl ⟨D5, d5, rfl, hown9, hb9⟩
    rw [results_cell_tmp2 rfl]
    go_simp
  · skip
    go_simp
    have hbA : Below v3.heap.size v3 (v3.drew.alloc (.cells #[.string (S n), .string (S v), .int .u64 (x : Int), .int .u64 (t : Int)] 31)) := balloc (bdrew (Below.refl _ _)) _
    refine hK.out _ _ ⟨(hq3.below hbA).get2.1.1, (hq3.below hbA).get2.1.2, (ha3.below hbA).get4.1⟩ (fun hHeld => ?_)
    clear hK K
    refine wpAnyH_ready (rs := [4]) (by kernel_rfl) (by simp) ?_
    refine AllReadyH.cons rfl (fun K hK => ?_) (AllReadyH.nil)
    go_simp
    go_at_call 47
    refine (hCl _ (hA3.below hbA)).out.mono ?_
    rintro e w4 ⟨D, d, rfl, hown, hb5⟩
    have hbX : Below v3.heap.size v3 w4 := below_chain hbA hb5
    have hownA : w4.ownsRow v3.heap.size 31 4 (.slice D l.length d) l.length (qcells l) := own_baseQ hown (by simp)
    go_wp2_with fail
    refine hK.out _ _ ⟨(hq3.below hbX).get2.1.1, (hq3.below hbX).get2.1.2, (ha3.below hbX).get4.1⟩ (fun hHeld => ?_)
    clear hK K
    refine wpAnyH_ready (rs := [7]) (by kernel_rfl) (by simp) ?_
    refine AllReadyH.cons rfl (fun K hK => ?_) (AllReadyH.nil)
    refine step_app_asks0 rfl (.tmp 34) (.tmp 36) rfl v3.heap.size _ l ?_ hownA (some ⟨v3.heap.size, 0, none⟩) 1 [(n, v, x, t)] ?_ ((ask_one v3.drew (n, v, x, t) _).below hb5) hsm ?_ ?_
    · first | rfl | simp [Act.eval, Act.put]
    · first | rfl | simp [Act.eval, Act.put]
    · exact hbX.size
    intro v5 w5 hown5 hgrow5
    rw [HT.out] at hown5
    have hbC : Below v3.heap.size v3 w5 := hbX.grown hgrow5 hbX.size (fun j hj => (hownA.lt j hj).1)
    obtain ⟨D5, d5, rfl⟩ := own_shape hown5
    have hz5 := hz3.below hbC
    have hq5 := hq3.below hbC
    have ha5 := ha3.below hbC
    obtain ⟨⟨z50, z51⟩, ⟨e50, e51⟩⟩ := hz5.get2
    refine hK.out _ _ ⟨(hq3.below hbC).get2.1.1, (hq3.below hbC).get2.1.2, (ha3.below hbC).get4.1⟩ (fun hHeld => ?_)
    clear hK K
    try simp only [Act.put, List.setIfInBounds_toArray, List.set_cons_zero, List.set_cons_succ, List.getElem_toArray, List.getElem_cons_zero, List.getElem_cons_succ]
    refine wpAnyH_take (i := 8) (v := ?_) rfl (by kernel_rfl) (by kernel_rfl) (by kernel_rfl) (fun _ _ _ h => h) (Or.inl ⟨by rfl, ?_⟩) (by assumption) ?_
    rotate_left
    · intro wt hSt
      try dsimp only at hSt
      first | (go_simp; done) | (go_simp; with_reducible rfl)
    simp only [Act.put, List.setIfInBounds_toArray, List.set_cons_zero, List.set_cons_succ, List.getElem_toArray, List.getElem_cons_zero, List.getElem_cons_succ]
    refine wpAnyH_ready (rs := [10]) (by kernel_rfl) (by simp) ?_
    refine AllReadyH.cons rfl (fun K hK => ?_) (AllReadyH.nil)
    go_simp
    have hq9 := (hq5.far (h := w.heap.size + 2) (by omega) 0 (.int .i64 most)).far (h := w.heap.size + 2) (by omega) 1 (.slice D5 T.length d5)
    have ha9 := (ha5.far (h := w.heap.size + 2) (by omega) 0 (.int .i64 most)).far (h := w.heap.size + 2) (by omega) 1 (.slice D5 T.length d5)
    refine hK.out _ _ ⟨hq9.get2.1.1, hq9.get2.1.2, ha9.get4.1⟩ (fun hHeld => ?_)
    clear hK K
    refine wpAnyH_take (i := 11) (v := ?_) rfl (by kernel_rfl) (by kernel_rfl) (by kernel_rfl) (fun _ _ _ h => h) (Or.inl ⟨by rfl, ?_⟩) (by assumption) ?_
    rotate_left
    · intro wt hSt
      try dsimp only at hSt
      first | (go_simp; done) | (go_simp; with_reducible rfl)
    simp only [Act.put, List.setIfInBounds_toArray, List.set_cons_zero, List.set_cons_succ, List.getElem_toArray, List.getElem_cons_zero, List.getElem_cons_succ]
    refine wpAnyH_take (i := 12) (v := ?_) rfl (by kernel_rfl) (by kernel_rfl) (by kernel_rfl) (fun _ _ _ h => h) (Or.inl ⟨by rfl, ?_⟩) (by assumption) ?_
    rotate_left
    · intro wt hSt
      try dsimp only at hSt
      first | (go_simp; done) | (go_simp; with_reducible rfl)
    simp only [Act.put, List.setIfInBounds_toArray, List.set_cons_zero, List.set_cons_succ, List.getElem_toArray, List.getElem_cons_zero, List.getElem_cons_succ]
    refine wpAnyH_done (by kernel_rfl) ?_ _
    have hz9 := hz5.set2 (.int .i64 most) (.slice D5 T.length d5)
    have hb9 := below_set2 (below_chain hb3 hbC) (by omega : w.heap.size ≤ w.heap.size + 2) (.int .i64 most) (.slice D5 T.length d5)
    have hg9 := (grown_setQ w5 ⟨w.heap.size + 2, 0, none⟩ (.int .i64 most)).trans (grown_setQ _ ⟨w.heap.size + 2, 1, none⟩ (.slice D5 T.length d5))
    have hown9 := own_baseQ (hown5.kept hg9 (.inr fun e => absurd (hown5.lt _ e).1 (by show ¬ v3.heap.size ≤ w.heap.size + 2; omega))) hs3
    go_wp2
    generalize (w5.setCell ⟨w.heap.size + 2, 0, none⟩ (.int .i64 most)).setCell ⟨w.heap.size + 2, 1, none⟩ (.slice D5 T.length d5) = w9 at *
    obtain ⟨⟨r0, r1⟩, _⟩ := hz9.get2
    refine bodyPost_ret (v := .tuple #[.agg #[.int .i64 most, .slice D5 T.length d5], .int .i64 (l.length : Int), .int .i64 0]) ?_ rfl ⟨D5, d5, rfl, hown9, hb9⟩
    rw [results_cell_tmp2 rfl]
    go_simp
end Go.Proofs.YtjcockcilkiggaaGreat
