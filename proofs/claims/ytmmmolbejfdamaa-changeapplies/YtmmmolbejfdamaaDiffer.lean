/- Differences of books on plain lists; the reference's Differ returns the names in which two books differ, in order. It writes nothing that was there. -/
import Derived.Test.YtmmmolbejfdamaaBook
import Derived.Test.YtmmmolbejfdamaaApps
import Derived.Test.YtmmmolbejfdamaaRefOrder
namespace Go.Proofs.Ytmmmolbejfdamaa
open Go.RowKit

/-- The names in which two books differ, in order. -/
def differ (a b : List Ent) : List Bytes := (Bin.srt ((a ++ b).map (·.1))).filter fun n => !(stands a n == stands b n)
theorem differ_mem (a b : List Ent) (n : Bytes) : n ∈ differ a b ↔ stands a n ≠ stands b n := by
  unfold differ
  rw [List.mem_filter, Bin.srt_mem]
  constructor
  · intro h
    have := h.2
    simpa using this
  · intro h
    refine ⟨?_, by simpa using h⟩
    rw [List.map_append, List.mem_append]
    rcases Classical.em (n ∈ a.map (·.1)) with h1 | h1
    · exact .inl h1
    · rcases Classical.em (n ∈ b.map (·.1)) with h2 | h2
      · exact .inr h2
      · exact absurd (((stands_none a n).2 h1).trans ((stands_none b n).2 h2).symm) h
theorem differ_order (a b : List Ent) : (differ a b).Pairwise Bin.R := (Bin.srt_pairwise _).sublist List.filter_sublist
theorem differ_comm (a b : List Ent) : differ a b = differ b a :=
  Bin.srt_only (differ_order a b) (differ_order b a) fun n => by rw [differ_mem, differ_mem]; exact ⟨fun h e => h e.symm, fun h e => h e.symm⟩
theorem differ_self (a : List Ent) : differ a a = [] := by
  rw [List.eq_nil_iff_forall_not_mem]
  intro n h
  exact (differ_mem a a n).1 h rfl
theorem differ_nil {a b : List Ent} (ha : (a.map (·.1)).Pairwise Bin.R) (hb : (b.map (·.1)).Pairwise Bin.R) : differ a b = [] ↔ a = b := by
  constructor
  · intro h
    refine book_ext ha hb fun n => ?_
    exact Classical.byContradiction fun e => by
      have := (differ_mem a b n).2 e
      rw [h] at this
      simp at this
  · rintro rfl
    exact differ_self a

section
variable {ops : Array Oper} {rest : List Oper} {o : Oper} {a : Act} {Q : Exit → Act → World → Prop}
/-- Entries behind entries, whatever slice holds the second ones. -/
theorem app_ents_any (w : World) (hgd : o.guard = none) (s x : Operand) (ho : o.op = .call { callee := .builtin .append, args := #[s, x], argTypes := #[22, 22] })
    (base : Nat) (v : Value) (l : List Ent) (hs : a.eval s = v) (hown : w.ownsRow base 34 2 v l.length (encells l))
    (B : Option Addr) (c : Nat) (r : List Ent) (hx : a.eval x = .slice B r.length c) (hB : Row w B (encells r))
    (hsmall : (l.length + r.length) * 32 ≤ 140737488355328) (hbase : base ≤ w.heap.size)
    (h : ∀ v' w', w'.ownsRow base 34 2 v' (l ++ r).length (encells (l ++ r)) → w.grownBy w' v.ownBlock → wpList Try.prog ops Q rest (a.put o.dst v') w') : wpList Try.prog ops Q (o :: rest) a w := by
  by_cases hr0 : r = []
  · subst hr0
    simp only [List.append_nil] at h
    obtain ⟨i0, hi, hz0, hz1, hz2⟩ := ent_info
    have hrun : (Builtin.append_ #[22, 22] o.type #[v, .slice B 0 c]).run Try.prog w = .ok v w := by
      rcases hown.2 with ⟨rfl, e0⟩ | ⟨g, cap, cur, rfl, _, _, hnc, _⟩
      · cases B <;> simp [Builtin.append_, run_underlying Try.underlying22, sizeOf, typeInfo, hi, Builtin.lenOf, Builtin.firstCells, loadCells, loadCellsFrom]
      · cases B <;> simp [Builtin.append_, run_underlying Try.underlying22, sizeOf, typeInfo, hi, Builtin.lenOf, Builtin.firstCells, loadCells, loadCellsFrom, hnc, storeCells]
    exact app_run w hgd s x _ _ ho _ _ _ _ hs hx hrun (h v w hown (World.grownBy.refl w _))
  · have hpos : 0 < r.length := List.length_pos_iff.2 hr0
    obtain ⟨g, off, rfl, hc⟩ := hB (by rw [encells_length]; omega)
    refine app_ents w hgd s x ho base v l hs hown ⟨g, off, none⟩ c r r.length rfl hx (fun j u hu => ?_) hsmall hbase h
    obtain ⟨hj, rfl⟩ := List.getElem?_eq_some_iff.1 hu
    rw [Go.WideShapes.add_plain]
    exact hc j hj
end
end Go.Proofs.Ytmmmolbejfdamaa
