/- Clerks: what one holds, its first error, when it is right. -/
import Derived.Test.YtjcockcilkiggaaGreatJ11
import Derived.Test.YtjcockcilkiggaaGreatJ14
import Derived.Test.YtjcockcilkiggaaGreatJ16
import Derived.Test.YtjcockcilkiggaaGreatJ02
import Derived.Lib.AppendZerosOnto
import Derived.Deep.DeepAppendRoom
import Derived.Handy
import Derived.Test.YtjcockcilkiggaaGreatJ09
import Derived.Test.YtjcockcilkiggaaGreatJ10
import Derived.Test.YtjcockcilkiggaaGreatJ01
namespace Go.Proofs.YtjcockcilkiggaaGreat
open Go.RowKit

/-- A clerk. -/
structure Ck where
  most : Int
  wait : List Ak
  batch : Int
  every : Int
  now : Int
  heads : List Hd
  books : List (List Ent)
/-- The first error of books beside their heads. -/
def booksFault : List (List Ent) → List Hd → Int
  | b :: bs, h :: hs => if fault b = 0 then (if prefMark b [] = h.2.1 then booksFault bs hs else 8) else fault b
  | _, _ => 0
abbrev rangeBad (k : Ck) : Prop := k.batch < 1 ∨ 30 < k.batch ∨ k.every < 1 ∨ 1000 < k.every ∨ k.now < 0 ∨ 1000000000 < k.now
abbrev formBad (k : Ck) : Prop := (firstH k.heads).1 ≠ 0 ∨ k.books.length ≠ k.heads.length ∨ k.now < (lastH k.heads).2.2.2
/-- The last book. -/
def lastBk (k : Ck) : List Ent := k.books[k.books.length - 1]?.getD []
theorem lastBk_at {k : Ck} {m : Nat} (h : k.books.length = m + 1) : lastBk k = k.books[m]'(by omega) := by
  have e : k.books.length - 1 = m := by omega
  simp only [lastBk, e]
  rw [List.getElem?_eq_getElem (by omega)]
  rfl
/-- How many names there are. -/
def namesN (k : Ck) (more : Bytes) : Nat := (Bin.srt (namesOf (lastBk k) k.wait more)).length
def ckfault (k : Ck) : Int :=
  if qfault k.most k.wait = 0 then
    (if rangeBad k then 4 else if (cfault k.heads).1 = 0 then
      (if formBad k then 3 else if booksFault k.books k.heads = 0 then (if 24 < namesN k [] then 7 else 0) else booksFault k.books k.heads)
    else (cfault k.heads).1)
  else qfault k.most k.wait
structure CkGood (k : Ck) : Prop where
  queue : QGood k.most k.wait
  range : ¬ rangeBad k
  chain : CGood k.heads
  form : ¬ formBad k
  each : ∀ i (h : i < k.books.length) (h' : i < k.heads.length), Good k.books[i] ∧ prefMark k.books[i] [] = k.heads[i].2.1
  names : namesN k [] ≤ 24
theorem booksFault_ok (bs : List (List Ent)) (hs : List Hd) : booksFault bs hs = 0 ↔ ∀ i (h : i < bs.length) (h' : i < hs.length), Good bs[i] ∧ prefMark bs[i] [] = hs[i].2.1 := by
  induction bs generalizing hs with
  | nil => simp [booksFault]
  | cons b bs ih =>
    cases hs with
    | nil => simp [booksFault]
    | cons h hs =>
      rw [booksFault]
      constructor
      · intro e
        by_cases h0 : fault b = 0
        · rw [if_pos h0] at e
          by_cases h1 : prefMark b [] = h.2.1
          · rw [if_pos h1] at e
            intro i hi hi'
            cases i with
            | zero => exact ⟨(fault_ok b).1 h0, h1⟩
            | succ i => exact (ih hs).1 e i (by simpa using hi) (by simpa using hi')
          · rw [if_neg h1] at e
            exact absurd e (by decide)
        · rw [if_neg h0] at e
          exact absurd e h0
      · intro e
        have e0 : Good b ∧ prefMark b [] = h.2.1 := e 0 (by simp) (by simp)
        rw [if_pos ((fault_ok b).2 e0.1), if_pos e0.2]
        exact (ih hs).2 fun i hi hi' => e (i + 1) (by simpa using hi) (by simpa using hi')
theorem ckfault_ok (k : Ck) : ckfault k = 0 ↔ CkGood k := by
  unfold ckfault
  constructor
  · intro h
    split at h
    · rename_i h1
      split at h
      · exact absurd h (by decide)
      · rename_i h2
        split at h
        · rename_i h3
          split at h
          · exact absurd h (by decide)
          · rename_i h4
            split at h
            · rename_i h5
              split at h
              · exact absurd h (by decide)
              · rename_i h6
                exact ⟨(qfault_ok _ _).1 h1, h2, (cfault_ok _).1 h3, h4, (booksFault_ok _ _).1 h5, by omega⟩
            · rename_i h5
              exact absurd h h5
        · rename_i h3
          exact absurd h h3
    · rename_i h1
      exact absurd h h1
  · rintro ⟨h1, h2, h3, h4, h5, h6⟩
    rw [if_pos ((qfault_ok _ _).2 h1), if_neg h2, if_pos ((cfault_ok _).2 h3), if_neg h4, if_pos ((booksFault_ok _ _).2 h5), if_neg (by omega)]
end Go.Proofs.YtjcockcilkiggaaGreat
/- Rows of requests: append of whatever slice (empty ones too), slices.Clone, slices.Grow and slices.Concat at requests. They write nothing that was there. -/
namespace Go.Proofs.YtjcockcilkiggaaGreat
set_option maxRecDepth 100000
open Go.RowKit

/-- append onto a row of the call's own, whatever is appended: the run itself. -/
theorem run_appQ0 (w : World) (ty : TypeId) (base : Nat) (v : Value) (l : List Ak) (hown : w.ownsRow base 31 4 v l.length (qcells l))
    (B : Option Addr) (c : Nat) (r : List Ak) (hB : Row w B (qcells r)) (hsmall : (l.length + r.length) * 48 ≤ 140737488355328) (hbase : base ≤ w.heap.size) :
    ∃ v' w', (Builtin.append_ #[22, 22] ty #[v, .slice B r.length c]).run Tryz.prog w = .ok v' w' ∧ w'.ownsRow base 31 4 v' (l ++ r).length (qcells (l ++ r)) ∧ w.grownBy w' v.ownBlock := by
  by_cases h0 : r = []
  · subst h0
    obtain ⟨i0, hi, hz0, hz1, hz2⟩ := ak_info
    refine ⟨v, w, ?_, by rw [List.append_nil]; exact hown, World.grownBy.refl w _⟩
    rcases hown.2 with ⟨rfl, e0⟩ | ⟨g, cap, cur, rfl, _, _, hnc, _⟩
    · cases B <;> simp [Builtin.append_, run_underlying Tryz.underlying22, sizeOf, typeInfo, hi, Builtin.lenOf, Builtin.firstCells, loadCells, loadCellsFrom]
    · cases B <;> simp [Builtin.append_, run_underlying Tryz.underlying22, sizeOf, typeInfo, hi, Builtin.lenOf, Builtin.firstCells, loadCells, loadCellsFrom, hnc, storeCells]
  · exact run_appQ w ty base v l hown B c r hB (List.length_pos_iff.2 h0) hsmall hbase
/-- .. as one step of a region that draws. -/
theorem step_app_asks0 {ops : Array Oper} {o : Oper} {a : Act} {w : World} {K : Act → World → Prop} {Q : Exit → Act → World → Prop} {E : Prop} (hgd : o.guard = none) (s x : Operand)
    (ho : o.op = .call { callee := .builtin .append, args := #[s, x], argTypes := #[22, 22] })
    (base : Nat) (v : Value) (l : List Ak) (hs : a.eval s = v) (hown : w.ownsRow base 31 4 v l.length (qcells l))
    (B : Option Addr) (c : Nat) (r : List Ak) (hx : a.eval x = .slice B r.length c) (hB : Row w B (qcells r)) (hsmall : (l.length + r.length) * 48 ≤ 140737488355328) (hbase : base ≤ w.heap.size)
    (h : ∀ v' w', w'.ownsRow base 31 4 v' (l ++ r).length (qcells (l ++ r)) → w.grownBy w' v.ownBlock → K (a.put o.dst v') w') :
    if Region.wanted o (yielded ops a.tmps) = true then Oper.wp Tryz.prog o a w K Q else E := by
  have hw : Region.wanted o (yielded ops a.tmps) = true := by simp [Region.wanted, hgd]
  rw [if_pos hw]
  obtain ⟨v', w', hrun, h1, h2⟩ := run_appQ0 w o.type base v l hown B c r hB hsmall hbase
  unfold Oper.wp
  simp [execOp, ho, resolve, invoke, builtin, hs, hx, hrun, Result.andThen]
  exact h v' w' h1 h2
/-- .. and in a straight line. -/
theorem app_asks0 {ops : Array Oper} {rest : List Oper} {o : Oper} {a : Act} {Q : Exit → Act → World → Prop} (w : World) (hgd : o.guard = none) (s x : Operand)
    (ho : o.op = .call { callee := .builtin .append, args := #[s, x], argTypes := #[22, 22] })
    (base : Nat) (v : Value) (l : List Ak) (hs : a.eval s = v) (hown : w.ownsRow base 31 4 v l.length (qcells l))
    (B : Option Addr) (c : Nat) (r : List Ak) (hx : a.eval x = .slice B r.length c) (hB : Row w B (qcells r)) (hsmall : (l.length + r.length) * 48 ≤ 140737488355328) (hbase : base ≤ w.heap.size)
    (h : ∀ v' w', w'.ownsRow base 31 4 v' (l ++ r).length (qcells (l ++ r)) → w.grownBy w' v.ownBlock → wpList Tryz.prog ops Q rest (a.put o.dst v') w') : wpList Tryz.prog ops Q (o :: rest) a w := by
  obtain ⟨v', w', hrun, h1, h2⟩ := run_appQ0 w o.type base v l hown B c r hB hsmall hbase
  exact app_run w hgd s x _ _ ho v _ v' w' hs hx hrun (h v' w' h1 h2)
theorem own_baseQ {w : World} {base b' size : Nat} {e : TypeId} {v : Value} {n : Nat} {xs : List Value} (h : w.ownsRow base e size v n xs) (hb : b' ≤ base) : w.ownsRow b' e size v n xs := by
  refine ⟨h.1, ?_⟩
  rcases h.2 with h0 | ⟨g, cap, cur, hv, h1, rest⟩
  · exact .inl h0
  · exact .inr ⟨g, cap, cur, hv, Nat.le_trans hb h1, rest⟩
theorem own_nilQ (w : World) (base : Nat) : w.ownsRow base 31 4 (.slice none 0 0) ([] : List Ak).length (qcells []) := ⟨rfl, .inl ⟨rfl, rfl⟩⟩

set_option maxHeartbeats 800000 in
theorem cloneAsks0 (A : Option Addr) (c : Nat) (l : List Ak) (w : World) (hm : l.length * 48 ≤ 140737488351232) (hA : Row w A (qcells l)) :
    Calls Tryz.prog 47 #[.slice A l.length c] w (AsksGives l w) := by
  by_cases h0 : l = []
  · subst h0
    have q : ∀ (w : World) (a : Option Addr) (n c n' c' : Nat), (binOp .eql 22 (.slice a n c) (.slice none n' c')).run Tryz.prog w = .ok (.bool a.isNone) w := fun w a n c n' c' => Lib.run_eql_slice_nil w _ _ a n c n' c' Tryz.underlying22
    rw [List.length_nil]
    cases A with
    | none =>
      go_enter Tryz.func47, Tryz.ntmps47
      go_wp2
      go_ret
      exact ⟨none, 0, rfl, own_nilQ w _, Below.refl _ _⟩
    | some a =>
      have hown := World.ownsRow_made (e := 31) (size := 4) w #[] 0 (Nat.le_refl w.heap.size) (Nat.zero_le _) rfl
      have hA1 := hA.alloc (.cells #[] 31)
      have hb0 : Below w.heap.size w (w.alloc (.cells #[] 31)) := (Below.refl _ w).alloc (Nat.le_refl _) _
      obtain ⟨v1, w1, hrun, hown1, hgrow1⟩ := run_appQ0 _ 22 w.heap.size _ [] hown (some a) c [] hA1 (by simp) hb0.size
      have hb1 := hb0.grown hgrow1 hb0.size (fun k hk => (hown.lt k hk).1)
      rw [List.nil_append] at hown1
      rw [List.length_nil] at hrun
      clear hA hA1
      go_enter Tryz.func47, Tryz.ntmps47
      go_wp2_with (at_builtin; refine app_run _ rfl _ _ _ _ rfl _ _ _ _ rfl rfl hrun ?_)
      obtain ⟨D, d, rfl⟩ := own_shape hown1
      go_ret
      exact ⟨D, d, rfl, hown1, hb1⟩
  · exact cloneAsks A c l w (List.length_pos_iff.2 h0) hm hA

end Go.Proofs.YtjcockcilkiggaaGreat
/- Rows of heads, of entries and of books of the call's own: append of whatever slice (empty ones too); what a store elsewhere keeps. -/
namespace Go.Proofs.YtjcockcilkiggaaGreat
set_option maxRecDepth 100000
open Go.RowKit

theorem ent_one1 (l : List Ent) : ∀ u ∈ encells l, u.oneCell' = true := fun u hu => by
  obtain ⟨y, _, hy⟩ := List.mem_flatMap.1 hu
  simp only [List.mem_cons, List.not_mem_nil, or_false] at hy
  rcases hy with rfl | rfl <;> rfl
/-- append onto a row of the call's own, whatever is appended: the run itself. -/
theorem run_appH0 (w : World) (ty : TypeId) (base : Nat) (v : Value) (l : List Hd) (hown : w.ownsRow base 45 4 v l.length (hcells l))
    (B : Option Addr) (c : Nat) (r : List Hd) (hB : Row w B (hcells r)) (hsmall : (l.length + r.length) * 32 ≤ 140737488355328) (hbase : base ≤ w.heap.size) :
    ∃ v' w', (Builtin.append_ #[25, 25] ty #[v, .slice B r.length c]).run Tryz.prog w = .ok v' w' ∧ w'.ownsRow base 45 4 v' (l ++ r).length (hcells (l ++ r)) ∧ w.grownBy w' v.ownBlock := by
  by_cases h0 : r = []
  · subst h0
    obtain ⟨i0, hi, hz0, hz1, hz2⟩ := hd_info
    refine ⟨v, w, ?_, by rw [List.append_nil]; exact hown, World.grownBy.refl w _⟩
    rcases hown.2 with ⟨rfl, e0⟩ | ⟨g, cap, cur, rfl, _, _, hnc, _⟩
    · cases B <;> simp [Builtin.append_, run_underlying Tryz.underlying25, sizeOf, typeInfo, hi, Builtin.lenOf, Builtin.firstCells, loadCells, loadCellsFrom]
    · cases B <;> simp [Builtin.append_, run_underlying Tryz.underlying25, sizeOf, typeInfo, hi, Builtin.lenOf, Builtin.firstCells, loadCells, loadCellsFrom, hnc, storeCells]
  · exact run_appH w ty base v l hown B c r hB (List.length_pos_iff.2 h0) hsmall hbase
/-- .. as one step of a region that draws. -/
theorem step_app_heads0 {ops : Array Oper} {o : Oper} {a : Act} {w : World} {K : Act → World → Prop} {Q : Exit → Act → World → Prop} {E : Prop} (hgd : o.guard = none) (s x : Operand)
    (ho : o.op = .call { callee := .builtin .append, args := #[s, x], argTypes := #[25, 25] })
    (base : Nat) (v : Value) (l : List Hd) (hs : a.eval s = v) (hown : w.ownsRow base 45 4 v l.length (hcells l))
    (B : Option Addr) (c : Nat) (r : List Hd) (hx : a.eval x = .slice B r.length c) (hB : Row w B (hcells r)) (hsmall : (l.length + r.length) * 32 ≤ 140737488355328) (hbase : base ≤ w.heap.size)
    (h : ∀ v' w', w'.ownsRow base 45 4 v' (l ++ r).length (hcells (l ++ r)) → w.grownBy w' v.ownBlock → K (a.put o.dst v') w') :
    if Region.wanted o (yielded ops a.tmps) = true then Oper.wp Tryz.prog o a w K Q else E := by
  have hw : Region.wanted o (yielded ops a.tmps) = true := by simp [Region.wanted, hgd]
  rw [if_pos hw]
  obtain ⟨v', w', hrun, h1, h2⟩ := run_appH0 w o.type base v l hown B c r hB hsmall hbase
  unfold Oper.wp
  simp [execOp, ho, resolve, invoke, builtin, hs, hx, hrun, Result.andThen]
  exact h v' w' h1 h2
/-- .. and in a straight line. -/
theorem app_heads0 {ops : Array Oper} {rest : List Oper} {o : Oper} {a : Act} {Q : Exit → Act → World → Prop} (w : World) (hgd : o.guard = none) (s x : Operand)
    (ho : o.op = .call { callee := .builtin .append, args := #[s, x], argTypes := #[25, 25] })
    (base : Nat) (v : Value) (l : List Hd) (hs : a.eval s = v) (hown : w.ownsRow base 45 4 v l.length (hcells l))
    (B : Option Addr) (c : Nat) (r : List Hd) (hx : a.eval x = .slice B r.length c) (hB : Row w B (hcells r)) (hsmall : (l.length + r.length) * 32 ≤ 140737488355328) (hbase : base ≤ w.heap.size)
    (h : ∀ v' w', w'.ownsRow base 45 4 v' (l ++ r).length (hcells (l ++ r)) → w.grownBy w' v.ownBlock → wpList Tryz.prog ops Q rest (a.put o.dst v') w') : wpList Tryz.prog ops Q (o :: rest) a w := by
  obtain ⟨v', w', hrun, h1, h2⟩ := run_appH0 w o.type base v l hown B c r hB hsmall hbase
  exact app_run w hgd s x _ _ ho v _ v' w' hs hx hrun (h v' w' h1 h2)
/-- append onto a row of the call's own, whatever is appended: the run itself. -/
theorem run_appE0 (w : World) (ty : TypeId) (base : Nat) (v : Value) (l : List Ent) (hown : w.ownsRow base 51 2 v l.length (encells l))
    (B : Option Addr) (c : Nat) (r : List Ent) (hB : Row w B (encells r)) (hsmall : (l.length + r.length) * 32 ≤ 140737488355328) (hbase : base ≤ w.heap.size) :
    ∃ v' w', (Builtin.append_ #[39, 39] ty #[v, .slice B r.length c]).run Tryz.prog w = .ok v' w' ∧ w'.ownsRow base 51 2 v' (l ++ r).length (encells (l ++ r)) ∧ w.grownBy w' v.ownBlock := by
  by_cases h0 : r = []
  · subst h0
    obtain ⟨i0, hi, hz0, hz1, hz2⟩ := ent_info
    refine ⟨v, w, ?_, by rw [List.append_nil]; exact hown, World.grownBy.refl w _⟩
    rcases hown.2 with ⟨rfl, e0⟩ | ⟨g, cap, cur, rfl, _, _, hnc, _⟩
    · cases B <;> simp [Builtin.append_, run_underlying Tryz.underlying39, sizeOf, typeInfo, hi, Builtin.lenOf, Builtin.firstCells, loadCells, loadCellsFrom]
    · cases B <;> simp [Builtin.append_, run_underlying Tryz.underlying39, sizeOf, typeInfo, hi, Builtin.lenOf, Builtin.firstCells, loadCells, loadCellsFrom, hnc, storeCells]
  · have hr := List.length_pos_iff.2 h0
    obtain ⟨i0, hi, hz0, hz1, hz2⟩ := ent_info
    obtain ⟨gb, off, rfl, hc⟩ := hB (by rw [encells_length]; omega)
    have hnews : ∀ j u, (encells r)[j]? = some u → w.cell? ((⟨gb, off, none⟩ : Addr).add j) = some u := fun j u hu => by
      obtain ⟨hj, rfl⟩ := List.getElem?_eq_some_iff.1 hu
      rw [Go.WideShapes.add_plain]
      exact hc j hj
    obtain ⟨v', w', h1, h2, h3, _⟩ := run_append_own (P := Tryz.prog) (w := w) base 39 ty 51 i0 (.agg #[.string ⟨#[]⟩, .string ⟨#[]⟩]) 2 32 Tryz.underlying39 hi hz0 hz1 hz2 rfl (by decide) v l.length (encells l) hown ⟨gb, off, none⟩ r.length c (encells r) (encells_length r) hnews (ent_one1 r) (by unfold maxLen; omega) hsmall hbase
    exact ⟨v', w', h1, by rw [List.length_append, encells_append]; exact h2, h3⟩
/-- .. as one step of a region that draws. -/
theorem step_app_ents0 {ops : Array Oper} {o : Oper} {a : Act} {w : World} {K : Act → World → Prop} {Q : Exit → Act → World → Prop} {E : Prop} (hgd : o.guard = none) (s x : Operand)
    (ho : o.op = .call { callee := .builtin .append, args := #[s, x], argTypes := #[39, 39] })
    (base : Nat) (v : Value) (l : List Ent) (hs : a.eval s = v) (hown : w.ownsRow base 51 2 v l.length (encells l))
    (B : Option Addr) (c : Nat) (r : List Ent) (hx : a.eval x = .slice B r.length c) (hB : Row w B (encells r)) (hsmall : (l.length + r.length) * 32 ≤ 140737488355328) (hbase : base ≤ w.heap.size)
    (h : ∀ v' w', w'.ownsRow base 51 2 v' (l ++ r).length (encells (l ++ r)) → w.grownBy w' v.ownBlock → K (a.put o.dst v') w') :
    if Region.wanted o (yielded ops a.tmps) = true then Oper.wp Tryz.prog o a w K Q else E := by
  have hw : Region.wanted o (yielded ops a.tmps) = true := by simp [Region.wanted, hgd]
  rw [if_pos hw]
  obtain ⟨v', w', hrun, h1, h2⟩ := run_appE0 w o.type base v l hown B c r hB hsmall hbase
  unfold Oper.wp
  simp [execOp, ho, resolve, invoke, builtin, hs, hx, hrun, Result.andThen]
  exact h v' w' h1 h2
/-- .. and in a straight line. -/
theorem app_ents0 {ops : Array Oper} {rest : List Oper} {o : Oper} {a : Act} {Q : Exit → Act → World → Prop} (w : World) (hgd : o.guard = none) (s x : Operand)
    (ho : o.op = .call { callee := .builtin .append, args := #[s, x], argTypes := #[39, 39] })
    (base : Nat) (v : Value) (l : List Ent) (hs : a.eval s = v) (hown : w.ownsRow base 51 2 v l.length (encells l))
    (B : Option Addr) (c : Nat) (r : List Ent) (hx : a.eval x = .slice B r.length c) (hB : Row w B (encells r)) (hsmall : (l.length + r.length) * 32 ≤ 140737488355328) (hbase : base ≤ w.heap.size)
    (h : ∀ v' w', w'.ownsRow base 51 2 v' (l ++ r).length (encells (l ++ r)) → w.grownBy w' v.ownBlock → wpList Tryz.prog ops Q rest (a.put o.dst v') w') : wpList Tryz.prog ops Q (o :: rest) a w := by
  obtain ⟨v', w', hrun, h1, h2⟩ := run_appE0 w o.type base v l hown B c r hB hsmall hbase
  exact app_run w hgd s x _ _ ho v _ v' w' hs hx hrun (h v' w' h1 h2)
theorem bk_info : ∃ i, Tryz.prog.info? 39 = some i ∧ i.zero = some (.slice none 0 0) ∧ i.size = 1 ∧ i.bytes = 24 := by
  have h : (Tryz.prog.info? 39).map (fun i => (i.zero, i.size, i.bytes)) = some (some (.slice none 0 0), 1, 24) := by kernel_rfl
  obtain ⟨i, hi, he⟩ := Option.map_eq_some_iff.1 h
  simp only [Prod.mk.injEq] at he
  exact ⟨i, hi, he.1, he.2.1, he.2.2⟩
/-- append onto a row of books. -/
theorem run_appB0 (w : World) (ty : TypeId) (base : Nat) (v : Value) (l : List Bp) (hown : w.ownsRow base 39 1 v l.length (bkcells l))
    (B : Option Addr) (c : Nat) (r : List Bp) (hB : Row w B (bkcells r)) (hsmall : (l.length + r.length) * 24 ≤ 140737488355328) (hbase : base ≤ w.heap.size) :
    ∃ v' w', (Builtin.append_ #[26, 26] ty #[v, .slice B r.length c]).run Tryz.prog w = .ok v' w' ∧ w'.ownsRow base 39 1 v' (l ++ r).length (bkcells (l ++ r)) ∧ w.grownBy w' v.ownBlock := by
  obtain ⟨i0, hi, hz0, hz1, hz2⟩ := bk_info
  have h := run_app1 26 39 i0 (.slice none 0 0) 24 Tryz.underlying26 hi hz0 hz1 hz2 rfl (by decide) w ty base v (bkcells l) (by rw [bkcells_length]; exact hown) B c (bkcells r) hB (bkcells_one r) (by rw [bkcells_length, bkcells_length]; exact hsmall) hbase
  rw [← bkcells_append, bkcells_length, bkcells_length] at h
  exact h
/-- .. in a straight line. -/
theorem app_books0 {ops : Array Oper} {rest : List Oper} {o : Oper} {a : Act} {Q : Exit → Act → World → Prop} (w : World) (hgd : o.guard = none) (s x : Operand)
    (ho : o.op = .call { callee := .builtin .append, args := #[s, x], argTypes := #[26, 26] })
    (base : Nat) (v : Value) (l : List Bp) (hs : a.eval s = v) (hown : w.ownsRow base 39 1 v l.length (bkcells l))
    (B : Option Addr) (c : Nat) (r : List Bp) (hx : a.eval x = .slice B r.length c) (hB : Row w B (bkcells r)) (hsmall : (l.length + r.length) * 24 ≤ 140737488355328) (hbase : base ≤ w.heap.size)
    (h : ∀ v' w', w'.ownsRow base 39 1 v' (l ++ r).length (bkcells (l ++ r)) → w.grownBy w' v.ownBlock → wpList Tryz.prog ops Q rest (a.put o.dst v') w') : wpList Tryz.prog ops Q (o :: rest) a w := by
  obtain ⟨v', w', hrun, h1, h2⟩ := run_appB0 w o.type base v l hown B c r hB hsmall hbase
  exact app_run w hgd s x _ _ ho v _ v' w' hs hx hrun (h v' w' h1 h2)
/-- A store below a row of the call's own leaves it as it was. -/
theorem own_set {W : World} {base g size n : Nat} {e : TypeId} {v : Value} {xs : List Value} (h : W.ownsRow base e size v n xs) (hg : g < base) (j : Nat) (u : Value) : (W.setCell ⟨g, j, none⟩ u).ownsRow base e size v n xs :=
  h.kept (row := some g) ⟨rfl, rfl, rfl, by simp [World.setCell], fun k _ hk => Below.heap_setCell _ _ _ k (fun e => hk (by rw [e]))⟩ (by
    cases hv : v.ownBlock with
    | none => exact .inl rfl
    | some k => exact .inr fun e => by have := (h.lt k hv).1; injection e with e; omega)
/-- Rows of elements of different types share no block. -/
theorem own_other {W W' : World} {b b' s s' n n' : Nat} {e e' : TypeId} {v v' : Value} {xs xs' : List Value} (h : W.ownsRow b e s v n xs) (h' : W.ownsRow b' e' s' v' n' xs') (hne : e ≠ e') (hg : W.grownBy W' v'.ownBlock) : W'.ownsRow b e s v n xs := by
  refine h.kept hg ?_
  rcases h.2 with ⟨rfl, _⟩ | ⟨g, cap, cur, rfl, _, hc, _⟩
  · exact .inl rfl
  · refine .inr fun e1 => ?_
    rcases h'.2 with ⟨rfl, _⟩ | ⟨g', cap', cur', rfl, _, hc', _⟩
    · simp [Value.ownBlock] at e1
    · simp only [Value.ownBlock, Option.some.injEq] at e1
      subst e1
      rw [hc] at hc'
      injection hc' with hc'
      injection hc' with _ hc'
      exact hne hc'
theorem own_nilAny (w : World) (base : Nat) (e : TypeId) (size : Nat) : w.ownsRow base e size (.slice none 0 0) 0 [] := ⟨by simp, .inl ⟨rfl, rfl⟩⟩
end Go.Proofs.YtjcockcilkiggaaGreat
/- slices.Equal at []int returns true at two slices that hold one list of ints; it writes nothing. -/
namespace Go.Proofs.YtjcockcilkiggaaGreat
open Go.RowKit

def icells (zs : List Int) : List Value := zs.map fun z => .int .i64 z
theorem icells_length (zs : List Int) : (icells zs).length = zs.length := by simp [icells]

end Go.Proofs.YtjcockcilkiggaaGreat
