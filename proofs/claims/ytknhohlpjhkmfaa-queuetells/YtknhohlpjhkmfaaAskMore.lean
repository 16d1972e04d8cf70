/- Rows of requests: append of whatever slice (empty ones too), slices.Clone, slices.Grow and slices.Concat at requests. They write nothing that was there. -/
import Derived.Test.YtknhohlpjhkmfaaAskRow
import Derived.Lib.AppendZerosOnto
import Derived.Deep.DeepAppendRoom
import Derived.Handy
namespace Go.Proofs.Ytknhohlpjhkmfaa
set_option maxRecDepth 100000
open Go.RowKit

/-- append onto a row of the call's own, whatever is appended: the run itself. -/
theorem run_appQ0 (w : World) (ty : TypeId) (base : Nat) (v : Value) (l : List Ak) (hown : w.ownsRow base 27 4 v l.length (qcells l))
    (B : Option Addr) (c : Nat) (r : List Ak) (hB : Row w B (qcells r)) (hsmall : (l.length + r.length) * 48 ≤ 140737488355328) (hbase : base ≤ w.heap.size) :
    ∃ v' w', (Builtin.append_ #[22, 22] ty #[v, .slice B r.length c]).run Try.prog w = .ok v' w' ∧ w'.ownsRow base 27 4 v' (l ++ r).length (qcells (l ++ r)) ∧ w.grownBy w' v.ownBlock := by
  by_cases h0 : r = []
  · subst h0
    obtain ⟨i0, hi, hz0, hz1, hz2⟩ := ak_info
    refine ⟨v, w, ?_, by rw [List.append_nil]; exact hown, World.grownBy.refl w _⟩
    rcases hown.2 with ⟨rfl, e0⟩ | ⟨g, cap, cur, rfl, _, _, hnc, _⟩
    · cases B <;> simp [Builtin.append_, run_underlying Try.underlying22, sizeOf, typeInfo, hi, Builtin.lenOf, Builtin.firstCells, loadCells, loadCellsFrom]
    · cases B <;> simp [Builtin.append_, run_underlying Try.underlying22, sizeOf, typeInfo, hi, Builtin.lenOf, Builtin.firstCells, loadCells, loadCellsFrom, hnc, storeCells]
  · exact run_appQ w ty base v l hown B c r hB (List.length_pos_iff.2 h0) hsmall hbase
/-- .. as one step of a region that draws. -/
theorem step_app_asks0 {ops : Array Oper} {o : Oper} {a : Act} {w : World} {K : Act → World → Prop} {Q : Exit → Act → World → Prop} {E : Prop} (hgd : o.guard = none) (s x : Operand)
    (ho : o.op = .call { callee := .builtin .append, args := #[s, x], argTypes := #[22, 22] })
    (base : Nat) (v : Value) (l : List Ak) (hs : a.eval s = v) (hown : w.ownsRow base 27 4 v l.length (qcells l))
    (B : Option Addr) (c : Nat) (r : List Ak) (hx : a.eval x = .slice B r.length c) (hB : Row w B (qcells r)) (hsmall : (l.length + r.length) * 48 ≤ 140737488355328) (hbase : base ≤ w.heap.size)
    (h : ∀ v' w', w'.ownsRow base 27 4 v' (l ++ r).length (qcells (l ++ r)) → w.grownBy w' v.ownBlock → K (a.put o.dst v') w') :
    if Region.wanted o (yielded ops a.tmps) = true then Oper.wp Try.prog o a w K Q else E := by
  have hw : Region.wanted o (yielded ops a.tmps) = true := by simp [Region.wanted, hgd]
  rw [if_pos hw]
  obtain ⟨v', w', hrun, h1, h2⟩ := run_appQ0 w o.type base v l hown B c r hB hsmall hbase
  unfold Oper.wp
  simp [execOp, ho, resolve, invoke, builtin, hs, hx, hrun, Result.andThen]
  exact h v' w' h1 h2
/-- .. and in a straight line. -/
theorem app_asks0 {ops : Array Oper} {rest : List Oper} {o : Oper} {a : Act} {Q : Exit → Act → World → Prop} (w : World) (hgd : o.guard = none) (s x : Operand)
    (ho : o.op = .call { callee := .builtin .append, args := #[s, x], argTypes := #[22, 22] })
    (base : Nat) (v : Value) (l : List Ak) (hs : a.eval s = v) (hown : w.ownsRow base 27 4 v l.length (qcells l))
    (B : Option Addr) (c : Nat) (r : List Ak) (hx : a.eval x = .slice B r.length c) (hB : Row w B (qcells r)) (hsmall : (l.length + r.length) * 48 ≤ 140737488355328) (hbase : base ≤ w.heap.size)
    (h : ∀ v' w', w'.ownsRow base 27 4 v' (l ++ r).length (qcells (l ++ r)) → w.grownBy w' v.ownBlock → wpList Try.prog ops Q rest (a.put o.dst v') w') : wpList Try.prog ops Q (o :: rest) a w := by
  obtain ⟨v', w', hrun, h1, h2⟩ := run_appQ0 w o.type base v l hown B c r hB hsmall hbase
  exact app_run w hgd s x _ _ ho v _ v' w' hs hx hrun (h v' w' h1 h2)
theorem own_baseQ {w : World} {base b' size : Nat} {e : TypeId} {v : Value} {n : Nat} {xs : List Value} (h : w.ownsRow base e size v n xs) (hb : b' ≤ base) : w.ownsRow b' e size v n xs := by
  refine ⟨h.1, ?_⟩
  rcases h.2 with h0 | ⟨g, cap, cur, hv, h1, rest⟩
  · exact .inl h0
  · exact .inr ⟨g, cap, cur, hv, Nat.le_trans hb h1, rest⟩
theorem own_nilQ (w : World) (base : Nat) : w.ownsRow base 27 4 (.slice none 0 0) ([] : List Ak).length (qcells []) := ⟨rfl, .inl ⟨rfl, rfl⟩⟩

set_option maxHeartbeats 800000 in
theorem cloneAsks0 (A : Option Addr) (c : Nat) (l : List Ak) (w : World) (hm : l.length * 48 ≤ 140737488351232) (hA : Row w A (qcells l)) :
    Calls Try.prog 19 #[.slice A l.length c] w (AsksGives l w) := by
  by_cases h0 : l = []
  · subst h0
    have q : ∀ (w : World) (a : Option Addr) (n c n' c' : Nat), (binOp .eql 22 (.slice a n c) (.slice none n' c')).run Try.prog w = .ok (.bool a.isNone) w := fun w a n c n' c' => Lib.run_eql_slice_nil w _ _ a n c n' c' Try.underlying22
    rw [List.length_nil]
    cases A with
    | none =>
      go_enter Try.func19, Try.ntmps19
      go_wp2
      go_ret
      exact ⟨none, 0, rfl, own_nilQ w _, Below.refl _ _⟩
    | some a =>
      have hown := World.ownsRow_made (e := 27) (size := 4) w #[] 0 (Nat.le_refl w.heap.size) (Nat.zero_le _) rfl
      have hA1 := hA.alloc (.cells #[] 27)
      have hb0 : Below w.heap.size w (w.alloc (.cells #[] 27)) := (Below.refl _ w).alloc (Nat.le_refl _) _
      obtain ⟨v1, w1, hrun, hown1, hgrow1⟩ := run_appQ0 _ 22 w.heap.size _ [] hown (some a) c [] hA1 (by simp) hb0.size
      have hb1 := hb0.grown hgrow1 hb0.size (fun k hk => (hown.lt k hk).1)
      rw [List.nil_append] at hown1
      rw [List.length_nil] at hrun
      clear hA hA1
      go_enter Try.func19, Try.ntmps19
      go_wp2_with (at_builtin; refine app_run _ rfl _ _ _ _ rfl _ _ _ _ rfl rfl hrun ?_)
      obtain ⟨D, d, rfl⟩ := own_shape hown1
      go_ret
      exact ⟨D, d, rfl, hown1, hb1⟩
  · exact cloneAsks A c l w (List.length_pos_iff.2 h0) hm hA

set_option maxHeartbeats 800000 in
theorem growQ_nil (k : Nat) (w : World) (hk : k * 48 ≤ 281474976710656) :
    Calls Try.prog 22 #[.slice none 0 0, .int .i64 (k : Int)] w (AsksGives [] w) := by
  by_cases h0 : k = 0
  · subst h0
    go_enter Try.func22, Try.ntmps22
    go_wp2
    go_ret
    exact ⟨none, 0, rfl, own_nilQ w _, Below.refl _ _⟩
  obtain ⟨i0, hi, hz0, hz1, hz2⟩ := ak_info
  have hr := fun ty => Lib.run_append_grow_zeros (P := Try.prog) w 22 3 ty 27 i0 (.agg #[.string ⟨#[]⟩, .string ⟨#[]⟩, .int .u64 0, .int .u64 0]) .i64 .i64 Try.underlying22 Try.underlying3 hi hz0 none 0 0 [] (by simp [Builtin.firstCells]) k (by omega) (by omega) (by omega) (by omega) (by rw [hz2]; omega) (by rw [hz2, Builtin.nextslicecap, if_pos (by omega)]; omega)
  have hcap := grownCap_ge w (0 + k) 0 27
  have hmax := grownCap_le_maxLen w (0 + k) 0 27 (by unfold maxLen; omega)
  generalize grownCap w (0 + k) 0 27 = cap at *
  clear hi hz0 hz1 hz2
  simp only [Nat.zero_add] at hr hcap
  have hcp : 0 < cap := by omega
  have hkp : 0 < k := by omega
  clear h0
  go_enter Try.func22, Try.ntmps22
  go_wp2_with (at_builtin; refine app_run _ rfl _ _ _ _ rfl _ _ _ _ rfl rfl (hr _) ?_)
  go_ret
  refine ⟨_, cap, rfl, ⟨by simp [qcells], .inr ⟨w.heap.size, cap, _, rfl, Nat.le_refl _, heap_alloc_new w.drew _, Nat.zero_le _, hmax, ?_, by simp [qcells]⟩⟩, ((Below.refl _ _).drew).alloc (Nat.le_refl _) _⟩
  simp [Builtin.zeroCells]
  omega

set_option maxHeartbeats 1000000 in
theorem concatQ2 (g : Nat) (A B : Option Addr) (c d : Nat) (ss tt : List Ak) (w : World) (hk : ss.length + tt.length ≤ 1000)
    (h0 : w.cell? ⟨g, 0, none⟩ = some (.slice A ss.length c)) (h1 : w.cell? ⟨g, 1, none⟩ = some (.slice B tt.length d)) (hA : Row w A (qcells ss)) (hB : Row w B (qcells tt)) :
    Calls Try.prog 13 #[.slice (some ⟨g, 0, none⟩) 2 2] w (AsksGives (ss ++ tt) w) := by
  go_enter Try.func13, Try.ntmps13
  go_wp2_with fail
  refine wp_loop_rounds 3 ?_
  rw [rounds_succ]
  go_wp2_with fail
  rw [rounds_succ]
  go_wp2_with fail
  rw [rounds_succ]
  go_wp2_with fail
  rw [show ((ss.length : Int) + (tt.length : Int)) = ((ss.length + tt.length : Nat) : Int) from by omega]
  refine (growQ_nil (ss.length + tt.length) _ (by omega)).mono ?_
  rintro e w1 ⟨A1, c1, rfl, hown1, hb1⟩
  have g0 := kept h0 hb1
  have hA1 := hA.below hb1
  go_wp2_with fail
  refine wp_loop_rounds 3 ?_
  rw [rounds_succ]
  go_wp2_with (at_builtin; refine app_asks0 w1 rfl _ _ rfl w.heap.size (.slice A1 0 c1) [] rfl hown1 A c ss rfl hA1 (by simp; omega) hb1.size ?_; intro v2 w2 hown2 hg2)
  have hb2 : Below w.heap.size w w2 := hb1.grown hg2 hb1.size (fun k hk' => (hown1.lt k hk').1)
  simp only [List.nil_append] at hown2
  clear g0 hA1
  have g1 := kept h1 hb2
  have hB2 := hB.below hb2
  obtain ⟨A2, c2, rfl⟩ := own_shape hown2
  rw [rounds_succ]
  go_wp2_with (at_builtin; refine app_asks0 w2 rfl _ _ rfl w.heap.size (.slice A2 ss.length c2) ss rfl hown2 B d tt rfl hB2 (by omega) hb2.size ?_; intro v3 w3 hown3 hg3)
  have hb3 : Below w.heap.size w w3 := hb2.grown hg3 hb2.size (fun k hk' => (hown2.lt k hk').1)
  obtain ⟨A3, c3, rfl⟩ := own_shape hown3
  clear g1 hB2
  rw [rounds_succ]
  go_wp2
  go_ret
  exact ⟨A3, c3, rfl, hown3, hb3⟩
/-- The same at a new array of slices. -/
theorem concatQ2' (w0 : World) (ty : TypeId) (g : Nat) (hg : g = w0.heap.size) (A B : Option Addr) (c d : Nat) (ss tt : List Ak) (na nb : Nat) (ha : ss.length = na) (hb : tt.length = nb) (hk : na + nb ≤ 1000)
    (hA : Row w0 A (qcells ss)) (hB : Row w0 B (qcells tt)) :
    Calls Try.prog 13 #[.slice (some ⟨g, 0, none⟩) 2 2] (w0.alloc (.cells #[.slice A na c, .slice B nb d] ty)) (AsksGives (ss ++ tt) (w0.alloc (.cells #[.slice A na c, .slice B nb d] ty))) := by
  subst hg; subst ha; subst hb
  exact concatQ2 w0.heap.size A B c d ss tt _ hk (by rw [World.cell?_alloc_new]; rfl) (by rw [World.cell?_alloc_new]; rfl) (hA.alloc _) (hB.alloc _)
end Go.Proofs.Ytknhohlpjhkmfaa
