/- append onto rows of the call's own with elements of one cell, whatever is appended: the run, one step of a region that draws, and in a straight line; rows of truth values. -/
import Derived.Test.YtlobpjpkldmnaaaMarks
namespace Go.Proofs.Ytlobpjpkldmnaaa
set_option maxRecDepth 100000
open Go.RowKit

/-- append onto a row of the call's own: the run itself. -/
theorem run_app1 (t e : TypeId) (i : TypeInfo) (z : Value) (bytes : Nat) (ht : Try.prog.underlying t = some (.slice e)) (hi : Try.prog.info? e = some i) (hz : i.zero = some z) (hs1 : i.size = 1) (hby : i.bytes = bytes) (hz1 : z.cells.size = 1) (hb0 : 0 < bytes)
    (w : World) (ty : TypeId) (base : Nat) (v : Value) (xs : List Value) (hown : w.ownsRow base e 1 v xs.length xs)
    (B : Option Addr) (c : Nat) (news : List Value) (hB : Row w B news) (hone : ∀ u ∈ news, u.oneCell' = true) (hsmall : (xs.length + news.length) * bytes ≤ 140737488355328) (hbase : base ≤ w.heap.size) :
    ∃ v' w', (Builtin.append_ #[t, t] ty #[v, .slice B news.length c]).run Try.prog w = .ok v' w' ∧ w'.ownsRow base e 1 v' (xs ++ news).length (xs ++ news) ∧ w.grownBy w' v.ownBlock := by
  by_cases h0 : news = []
  · subst h0
    refine ⟨v, w, ?_, by rw [List.append_nil]; exact hown, World.grownBy.refl w _⟩
    rcases hown.2 with ⟨rfl, e0⟩ | ⟨g, cap, cur, rfl, _, _, hnc, _⟩
    · cases B <;> simp [Builtin.append_, run_underlying ht, sizeOf, typeInfo, hi, Builtin.lenOf, Builtin.firstCells, loadCells, loadCellsFrom]
    · cases B <;> simp [Builtin.append_, run_underlying ht, sizeOf, typeInfo, hi, Builtin.lenOf, Builtin.firstCells, loadCells, loadCellsFrom, hnc, storeCells]
  · have hpos : 0 < news.length := List.length_pos_iff.2 h0
    obtain ⟨gb, off, rfl, hc⟩ := hB hpos
    have hnews : ∀ j u, news[j]? = some u → w.cell? ((⟨gb, off, none⟩ : Addr).add j) = some u := fun j u hu => by
      obtain ⟨hj, rfl⟩ := List.getElem?_eq_some_iff.1 hu
      rw [Go.WideShapes.add_plain]
      exact hc j hj
    have hle : xs.length + news.length ≤ (xs.length + news.length) * bytes := Nat.le_mul_of_pos_right _ hb0
    obtain ⟨v', w', h1, h2, h3, _⟩ := run_append_own (P := Try.prog) (w := w) base t ty e i z 1 bytes ht hi hz hs1 hby hz1 (by decide) v xs.length xs hown ⟨gb, off, none⟩ news.length c news (by omega) hnews hone (by unfold maxLen; omega) hsmall hbase
    exact ⟨v', w', h1, by rw [List.length_append]; exact h2, h3⟩

theorem mcells_one (l : List Nat) : ∀ u ∈ mcells l, u.oneCell' = true := fun u hu => by obtain ⟨_, _, rfl⟩ := List.mem_map.1 hu; rfl
theorem run_appM (w : World) (ty : TypeId) (base : Nat) (v : Value) (l : List Nat) (hown : w.ownsRow base 23 1 v l.length (mcells l))
    (B : Option Addr) (c : Nat) (r : List Nat) (hB : Row w B (mcells r)) (hsmall : (l.length + r.length) * 8 ≤ 140737488355328) (hbase : base ≤ w.heap.size) :
    ∃ v' w', (Builtin.append_ #[24, 24] ty #[v, .slice B r.length c]).run Try.prog w = .ok v' w' ∧ w'.ownsRow base 23 1 v' (l ++ r).length (mcells (l ++ r)) ∧ w.grownBy w' v.ownBlock := by
  obtain ⟨i0, hi, hz0, hz1, hz2⟩ := u64_info
  have h := run_app1 24 23 i0 (.int .u64 0) 8 Try.underlying24 hi hz0 hz1 hz2 rfl (by decide) w ty base v (mcells l) (by rw [mcells_length]; exact hown) B c (mcells r) hB (mcells_one r) (by rw [mcells_length, mcells_length]; exact hsmall) hbase
  rw [← mcells_append, mcells_length, mcells_length] at h
  exact h
/-- .. as one step of a region that draws. -/
theorem step_app_marks {ops : Array Oper} {o : Oper} {a : Act} {w : World} {K : Act → World → Prop} {Q : Exit → Act → World → Prop} {E : Prop} (hgd : o.guard = none) (s x : Operand)
    (ho : o.op = .call { callee := .builtin .append, args := #[s, x], argTypes := #[24, 24] })
    (base : Nat) (v : Value) (l : List Nat) (hs : a.eval s = v) (hown : w.ownsRow base 23 1 v l.length (mcells l))
    (B : Option Addr) (c : Nat) (r : List Nat) (hx : a.eval x = .slice B r.length c) (hB : Row w B (mcells r)) (hsmall : (l.length + r.length) * 8 ≤ 140737488355328) (hbase : base ≤ w.heap.size)
    (h : ∀ v' w', w'.ownsRow base 23 1 v' (l ++ r).length (mcells (l ++ r)) → w.grownBy w' v.ownBlock → K (a.put o.dst v') w') :
    if Region.wanted o (yielded ops a.tmps) = true then Oper.wp Try.prog o a w K Q else E := by
  have hw : Region.wanted o (yielded ops a.tmps) = true := by simp [Region.wanted, hgd]
  rw [if_pos hw]
  obtain ⟨v', w', hrun, h1, h2⟩ := run_appM w o.type base v l hown B c r hB hsmall hbase
  unfold Oper.wp
  simp [execOp, ho, resolve, invoke, builtin, hs, hx, hrun, Result.andThen]
  exact h v' w' h1 h2
/-- .. and in a straight line. -/
theorem app_marksR {ops : Array Oper} {rest : List Oper} {o : Oper} {a : Act} {Q : Exit → Act → World → Prop} (w : World) (hgd : o.guard = none) (s x : Operand)
    (ho : o.op = .call { callee := .builtin .append, args := #[s, x], argTypes := #[24, 24] })
    (base : Nat) (v : Value) (l : List Nat) (hs : a.eval s = v) (hown : w.ownsRow base 23 1 v l.length (mcells l))
    (B : Option Addr) (c : Nat) (r : List Nat) (hx : a.eval x = .slice B r.length c) (hB : Row w B (mcells r)) (hsmall : (l.length + r.length) * 8 ≤ 140737488355328) (hbase : base ≤ w.heap.size)
    (h : ∀ v' w', w'.ownsRow base 23 1 v' (l ++ r).length (mcells (l ++ r)) → w.grownBy w' v.ownBlock → wpList Try.prog ops Q rest (a.put o.dst v') w') : wpList Try.prog ops Q (o :: rest) a w := by
  obtain ⟨v', w', hrun, h1, h2⟩ := run_appM w o.type base v l hown B c r hB hsmall hbase
  exact app_run w hgd s x _ _ ho v _ v' w' hs hx hrun (h v' w' h1 h2)
theorem mark_row (w : World) (z : Nat) (t : TypeId) : Row (w.alloc (.cells #[.int .u64 (z : Int)] t)) (some ⟨w.heap.size, 0, none⟩) (mcells [z]) := Row.new w _ _ _ t rfl rfl
/-- One hash in a block just made is a row of the call's own. -/
theorem mark_own (w : World) (z base : Nat) (hb : base ≤ w.heap.size) : (w.alloc (.cells #[.int .u64 (z : Int)] 23)).ownsRow base 23 1 (.slice (some ⟨w.heap.size, 0, none⟩) 1 1) 1 (mcells [z]) := by
  refine ⟨rfl, .inr ⟨w.heap.size, 1, _, rfl, hb, heap_alloc_new w _, Nat.le_refl _, by unfold maxLen; omega, rfl, rfl⟩⟩

theorem own_cap1 {w : World} {base size : Nat} {e : TypeId} {A : Option Addr} {n c : Nat} {xs : List Value} (h : w.ownsRow base e size (.slice A n c) n xs) : n ≤ c ∧ c ≤ maxLen := by
  rcases h.2 with ⟨h0, rfl⟩ | ⟨g, cap, cur, hv, _, _, h1, h2, _⟩
  · injection h0 with _ _ e3
    subst e3
    exact ⟨Nat.le_refl _, by unfold maxLen; omega⟩
  · injection hv with _ _ e3
    subst e3
    exact ⟨h1, h2⟩
/-- The cells of a list of truth values. -/
def tcells (l : List Bool) : List Value := l.map .bool
theorem tcells_length (l : List Bool) : (tcells l).length = l.length := by simp [tcells]
theorem tcells_append (a b : List Bool) : tcells (a ++ b) = tcells a ++ tcells b := by simp [tcells]
theorem tcells_one (l : List Bool) : ∀ u ∈ tcells l, u.oneCell' = true := fun u hu => by obtain ⟨_, _, rfl⟩ := List.mem_map.1 hu; rfl
theorem Row.truth {w : World} {A : Option Addr} {l : List Bool} (h : Row w A (tcells l)) (k : Nat) (b : Bool) (hk : l[k]? = some b) : ∃ g off, A = some ⟨g, off, none⟩ ∧ w.cell? ⟨g, off + k, none⟩ = some (.bool b) := by
  obtain ⟨hlt, rfl⟩ := List.getElem?_eq_some_iff.1 hk
  obtain ⟨g, off, e, hc⟩ := h (by rw [tcells_length]; omega)
  refine ⟨g, off, e, ?_⟩
  rw [hc k (by rw [tcells_length]; exact hlt)]
  simp [tcells]
theorem truth_row (w : World) (b : Bool) (t : TypeId) : Row (w.alloc (.cells #[.bool b] t)) (some ⟨w.heap.size, 0, none⟩) (tcells [b]) := Row.new w _ _ _ t rfl rfl

theorem bool_info : ∃ i, Try.prog.info? 4 = some i ∧ i.zero = some (.bool false) ∧ i.size = 1 ∧ i.bytes = 1 := by
  have h : (Try.prog.info? 4).map (fun i => (i.zero, i.size, i.bytes)) = some (some (.bool false), 1, 1) := by kernel_rfl
  obtain ⟨i, hi, he⟩ := Option.map_eq_some_iff.1 h
  simp only [Prod.mk.injEq] at he
  exact ⟨i, hi, he.1, he.2.1, he.2.2⟩
/-- Truth values behind truth values. -/
theorem app_bools {ops : Array Oper} {rest : List Oper} {o : Oper} {a : Act} {Q : Exit → Act → World → Prop} (w : World) (hgd : o.guard = none) (s x : Operand)
    (ho : o.op = .call { callee := .builtin .append, args := #[s, x], argTypes := #[54, 54] })
    (base : Nat) (v : Value) (l : List Bool) (hs : a.eval s = v) (hown : w.ownsRow base 4 1 v l.length (tcells l))
    (B : Option Addr) (c : Nat) (r : List Bool) (hx : a.eval x = .slice B r.length c) (hB : Row w B (tcells r)) (hsmall : (l.length + r.length) * 1 ≤ 140737488355328) (hbase : base ≤ w.heap.size)
    (h : ∀ v' w', w'.ownsRow base 4 1 v' (l ++ r).length (tcells (l ++ r)) → w.grownBy w' v.ownBlock → wpList Try.prog ops Q rest (a.put o.dst v') w') : wpList Try.prog ops Q (o :: rest) a w := by
  obtain ⟨i0, hi, hz0, hz1, hz2⟩ := bool_info
  have h' := run_app1 54 4 i0 (.bool false) 1 Try.underlying54 hi hz0 hz1 hz2 rfl (by decide) w o.type base v (tcells l) (by rw [tcells_length]; exact hown) B c (tcells r) hB (tcells_one r) (by rw [tcells_length, tcells_length]; exact hsmall) hbase
  rw [← tcells_append, tcells_length, tcells_length] at h'
  obtain ⟨v', w', hrun, h1, h2⟩ := h'
  exact app_run w hgd s x _ _ ho v _ v' w' hs hx hrun (h v' w' h1 h2)

theorem turn_info : ∃ i, Try.prog.info? 62 = some i ∧ i.zero = some (.agg #[.bool false]) ∧ i.size = 1 ∧ i.bytes = 1 := by
  have h : (Try.prog.info? 62).map (fun i => (i.zero, i.size, i.bytes)) = some (some (.agg #[.bool false]), 1, 1) := by kernel_rfl
  obtain ⟨i, hi, he⟩ := Option.map_eq_some_iff.1 h
  simp only [Prod.mk.injEq] at he
  exact ⟨i, hi, he.1, he.2.1, he.2.2⟩
/-- Turns behind turns. -/
theorem app_turns {ops : Array Oper} {rest : List Oper} {o : Oper} {a : Act} {Q : Exit → Act → World → Prop} (w : World) (hgd : o.guard = none) (s x : Operand)
    (ho : o.op = .call { callee := .builtin .append, args := #[s, x], argTypes := #[58, 58] })
    (base : Nat) (v : Value) (l : List Bool) (hs : a.eval s = v) (hown : w.ownsRow base 62 1 v l.length (tcells l))
    (B : Option Addr) (c : Nat) (r : List Bool) (hx : a.eval x = .slice B r.length c) (hB : Row w B (tcells r)) (hsmall : (l.length + r.length) * 1 ≤ 140737488355328) (hbase : base ≤ w.heap.size)
    (h : ∀ v' w', w'.ownsRow base 62 1 v' (l ++ r).length (tcells (l ++ r)) → w.grownBy w' v.ownBlock → wpList Try.prog ops Q rest (a.put o.dst v') w') : wpList Try.prog ops Q (o :: rest) a w := by
  obtain ⟨i0, hi, hz0, hz1, hz2⟩ := turn_info
  have h' := run_app1 58 62 i0 (.agg #[.bool false]) 1 Try.underlying58 hi hz0 hz1 hz2 rfl (by decide) w o.type base v (tcells l) (by rw [tcells_length]; exact hown) B c (tcells r) hB (tcells_one r) (by rw [tcells_length, tcells_length]; exact hsmall) hbase
  rw [← tcells_append, tcells_length, tcells_length] at h'
  obtain ⟨v', w', hrun, h1, h2⟩ := h'
  exact app_run w hgd s x _ _ ho v _ v' w' hs hx hrun (h v' w' h1 h2)
end Go.Proofs.Ytlobpjpkldmnaaa
