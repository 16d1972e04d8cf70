/- slices.Concat at two or three []api.Entry returns a new slice with the entries of all; slices.Grow at nil makes the room. They write nothing that was there. -/
import Derived.Test.YteclnibbgdbjfaaBook
import Derived.Test.YteclnibbgdbjfaaApps
import Derived.Lib.AppendZerosOnto
import Derived.Deep.DeepAppendRoom
import Derived.Handy
namespace Go.Proofs.Yteclnibbgdbjfaa
set_option maxRecDepth 100000
open Go.RowKit

/-- What Grow leaves: an empty row with room for k. -/
def GrewE (k : Nat) (w : World) (e : Ending) (w' : World) : Prop :=
  ∃ v A c, e = .returned v ∧ v = .slice A 0 c ∧ w'.ownsRow w.heap.size 54 2 v 0 [] ∧ k ≤ c ∧ Below w.heap.size w w'

/-- append(out, s...): out a row of the call's own with room, s whatever slice of strings. -/
theorem appE_room {ops : Array Oper} {rest : List Oper} {o : Oper} {a : Act} {Q : Exit → Act → World → Prop} (w : World) (hgd : o.guard = none) (s x : Operand) (ho : o.op = .call { callee := .builtin .append, args := #[s, x], argTypes := #[23, 23] })
    (base : Nat) (A B : Option Addr) (c d : Nat) (l r : List Ent) (hs : a.eval s = .slice A l.length c) (hown : w.ownsRow base 54 2 (.slice A l.length c) l.length (encells l))
    (hx : a.eval x = .slice B r.length d) (hr : Row w B (encells r)) (hroom : l.length + r.length ≤ c) 
    (h : ∀ w', w'.ownsRow base 54 2 (.slice A (l ++ r).length c) (l ++ r).length (encells (l ++ r)) → w.grownBy w' (Value.slice A l.length c).ownBlock → wpList Try.prog ops Q rest (a.put o.dst (.slice A (l ++ r).length c)) w') : wpList Try.prog ops Q (o :: rest) a w := by
  obtain ⟨i0, hi, hz0, hz1, hz2⟩ := ent_info
  by_cases hr0 : r = []
  · subst hr0
    simp only [List.append_nil] at h
    have hrun : (Builtin.append_ #[23, 23] o.type #[.slice A l.length c, .slice B 0 d]).run Try.prog w = .ok (.slice A l.length c) w := by
      rcases hown.2 with ⟨e, e0⟩ | ⟨g, cap, cur, e, _, _, hnc, _⟩
      · injection e with e1 e2 e3
        subst e1; subst e3
        have hl : l = [] := List.eq_nil_of_length_eq_zero e0
        subst hl
        cases B <;> simp [Builtin.append_, run_underlying Try.underlying23, sizeOf, typeInfo, hi, Builtin.lenOf, Builtin.firstCells, loadCells, loadCellsFrom]
      · injection e with e1 e2 e3
        subst e1; subst e3
        cases B <;> simp [Builtin.append_, run_underlying Try.underlying23, sizeOf, typeInfo, hi, Builtin.lenOf, Builtin.firstCells, loadCells, loadCellsFrom, hnc, storeCells]
    exact app_run w hgd s x _ _ ho _ _ _ _ hs hx hrun (h w hown (World.grownBy.refl w _))
  · have hpos : 0 < r.length := List.length_pos_iff.2 hr0
    obtain ⟨g, off, rfl, hc⟩ := hr (by rw [encells_length]; omega)
    obtain ⟨g0, rfl⟩ : ∃ g0, A = some ⟨g0, 0, none⟩ := by
      rcases hown.2 with ⟨e, _⟩ | ⟨g0, cap, cur, e, _⟩
      · injection e with e1 e2 e3
        omega
      · injection e with e1 e2 e3
        exact ⟨g0, e1⟩
    refine wpList_append_own_spare w hgd s x 23 ho base 54 i0 2 Try.underlying23 hi hz1 g0 l.length c (encells l) hs hown ⟨g, off, none⟩ r.length d (encells r) hx (by rw [encells_length]) (fun j u hu => ?_)
      (fun u hu => by
        obtain ⟨y, _, hy⟩ := List.mem_flatMap.1 hu
        rcases List.mem_cons.1 hy with rfl | hy
        · rfl
        · rw [List.mem_singleton.1 hy]; rfl) hroom ?_
    · obtain ⟨hj, rfl⟩ := List.getElem?_eq_some_iff.1 hu
      rw [Go.WideShapes.add_plain]
      exact hc j hj
    · intro w' h1 h2
      refine (congrArg (fun n => wpList Try.prog ops Q rest (a.put o.dst (.slice (some ⟨g0, 0, none⟩) n c)) w') (List.length_append : (l ++ r).length = l.length + r.length)).mp (h w' ?_ h2)
      rw [encells_append, List.length_append]
      exact h1

theorem appE_room' {ops : Array Oper} {rest : List Oper} {o : Oper} {a : Act} {Q : Exit → Act → World → Prop} (w : World) (hgd : o.guard = none) (s x : Operand) (ho : o.op = .call { callee := .builtin .append, args := #[s, x], argTypes := #[23, 23] })
    (base : Nat) (A B : Option Addr) (c d : Nat) (l r : List Ent) (n : Nat) (hn : n = l.length) (hs : a.eval s = .slice A n c) (hown : w.ownsRow base 54 2 (.slice A l.length c) l.length (encells l))
    (hx : a.eval x = .slice B r.length d) (hr : Row w B (encells r)) (hroom : l.length + r.length ≤ c) 
    (h : ∀ w', w'.ownsRow base 54 2 (.slice A (l ++ r).length c) (l ++ r).length (encells (l ++ r)) → w.grownBy w' (Value.slice A l.length c).ownBlock → wpList Try.prog ops Q rest (a.put o.dst (.slice A (l ++ r).length c)) w') : wpList Try.prog ops Q (o :: rest) a w := by
  subst hn
  exact appE_room w hgd s x ho base A B c d l r hs hown hx hr hroom h

/-- What Concat leaves: a row of its own with both lists. -/
def JoinedE (l : List Ent) (w : World) (e : Ending) (w' : World) : Prop :=
  ∃ A c, e = .returned (.slice A l.length c) ∧ w'.ownsRow w.heap.size 54 2 (.slice A l.length c) l.length (encells l) ∧ Below w.heap.size w w'

theorem encells_take (es : List Ent) (p : Nat) : encells (es.take p) = (encells es).take (p * 2) := by
  induction es generalizing p with
  | nil => simp [encells]
  | cons x es ih =>
    cases p with
    | zero => simp [encells]
    | succ p =>
      have := ih p
      simp only [encells] at this ⊢
      rw [List.take_succ_cons, List.flatMap_cons, List.flatMap_cons, this, show (p + 1) * 2 = p * 2 + 2 by omega]
      simp
theorem encells_drop (es : List Ent) (p : Nat) : encells (es.drop p) = (encells es).drop (p * 2) := by
  induction es generalizing p with
  | nil => simp [encells]
  | cons x es ih =>
    cases p with
    | zero => simp [encells]
    | succ p =>
      have := ih p
      simp only [encells] at this ⊢
      rw [List.drop_succ_cons, List.flatMap_cons, this, show (p + 1) * 2 = p * 2 + 2 by omega]
      simp
theorem Row.take {w : World} {A : Option Addr} {vs : List Value} (h : Row w A vs) (k : Nat) : Row w A (vs.take k) := fun h0 => by
  obtain ⟨g, off, e, hc⟩ := h (by rw [List.length_take] at h0; omega)
  refine ⟨g, off, e, fun j hj => ?_⟩
  rw [List.length_take] at hj
  rw [List.getElem_take]
  exact hc j (by omega)
theorem Row.drop {w : World} {A : Option Addr} {vs : List Value} (h : Row w A vs) (k : Nat) : Row w (A.map (·.add k)) (vs.drop k) := fun h0 => by
  rw [List.length_drop] at h0
  obtain ⟨g, off, e, hc⟩ := h (by omega)
  subst e
  refine ⟨g, off + k, by rw [Option.map_some, Go.WideShapes.add_plain], fun j hj => ?_⟩
  rw [List.length_drop] at hj
  rw [List.getElem_drop, Nat.add_assoc]
  exact hc (k + j) (by omega)
theorem Row.takeE {w : World} {A : Option Addr} {es : List Ent} (h : Row w A (encells es)) (p : Nat) : Row w A (encells (es.take p)) := by rw [encells_take]; exact h.take _
theorem Row.dropE {w : World} {A : Option Addr} {es : List Ent} (h : Row w A (encells es)) (p : Nat) : Row w (A.map (·.add (p * 2))) (encells (es.drop p)) := by rw [encells_drop]; exact h.drop _
end Go.Proofs.Yteclnibbgdbjfaa
