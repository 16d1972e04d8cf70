/- Books as lists of names and values in rows of cells. -/
import Derived.Test.YteclnibbgdbjfaaBook
namespace Go.Proofs.Yteclnibbgdbjfaa
open Go.RowKit

/-- The cells of a list of entries. -/
def encells (es : List Ent) : List Value := es.flatMap fun x => [.string (S x.1), .string (S x.2)]
theorem encells_length (es : List Ent) : (encells es).length = es.length * 2 := by
  induction es with
  | nil => rfl
  | cons x es ih =>
    have e : encells (x :: es) = .string (S x.1) :: .string (S x.2) :: encells es := rfl
    rw [e, List.length_cons, List.length_cons, ih, List.length_cons]
    omega
theorem encells_append (a b : List Ent) : encells (a ++ b) = encells a ++ encells b := by simp [encells]
theorem encells_get (es : List Ent) (k : Nat) (h : k < es.length) : (encells es)[k * 2]? = some (.string (S es[k].1)) ∧ (encells es)[k * 2 + 1]? = some (.string (S es[k].2)) := by
  induction es generalizing k with
  | nil => simp at h
  | cons x es ih =>
    have e : encells (x :: es) = .string (S x.1) :: .string (S x.2) :: encells es := rfl
    rw [e]
    cases k with
    | zero => exact ⟨rfl, rfl⟩
    | succ k =>
      have := ih k (by simpa using h)
      rw [show (k + 1) * 2 = k * 2 + 1 + 1 by omega, show k * 2 + 1 + 1 + 1 = (k * 2 + 1) + 1 + 1 by omega]
      simpa using this
theorem Row.ent {w : World} {A : Option Addr} {es : List Ent} (h : Row w A (encells es)) (k : Nat) (hk : k < es.length) :
    ∃ g off, A = some ⟨g, off, none⟩ ∧ w.cell? ⟨g, off + k * 2, none⟩ = some (.string (S es[k].1)) ∧ w.cell? ⟨g, off + k * 2 + 1, none⟩ = some (.string (S es[k].2)) := by
  obtain ⟨g, off, e, hc⟩ := h (by rw [encells_length]; omega)
  have hg := encells_get es k hk
  have h1 := hc (k * 2) (by rw [encells_length]; omega)
  have h2 := hc (k * 2 + 1) (by rw [encells_length]; omega)
  obtain ⟨l1, e1⟩ := List.getElem?_eq_some_iff.1 hg.1
  obtain ⟨l2, e2⟩ := List.getElem?_eq_some_iff.1 hg.2
  rw [e1] at h1
  rw [e2] at h2
  exact ⟨g, off, e, h1, by rw [Nat.add_assoc]; exact h2⟩

/-- Entries of the call's own row. -/
theorem Row.ownE {w : World} {base : Nat} {e : TypeId} {A : Option Addr} {n c : Nat} {vs : List Value} (h : w.ownsRow base e 2 (.slice A n c) n vs) : Row w A vs := fun h0 => by
  obtain ⟨g, cap, hv, _, _⟩ := h.form (by have := h.1; omega)
  obtain rfl : A = some ⟨g, 0, none⟩ := by injection hv
  refine ⟨g, 0, rfl, fun k hk => ?_⟩
  have := h.cells (g := g) rfl k vs[k] (List.getElem?_eq_getElem hk)
  rwa [Go.WideShapes.add_plain] at this

theorem ent_info : ∃ i, Try.prog.info? 54 = some i ∧ i.zero = some (.agg #[.string ⟨#[]⟩, .string ⟨#[]⟩]) ∧ i.size = 2 ∧ i.bytes = 32 := by
  have h : (Try.prog.info? 54).map (fun i => (i.zero, i.size, i.bytes)) = some (some (.agg #[.string ⟨#[]⟩, .string ⟨#[]⟩]), 2, 32) := by kernel_rfl
  obtain ⟨i, hi, he⟩ := Option.map_eq_some_iff.1 h
  simp only [Prod.mk.injEq] at he
  exact ⟨i, hi, he.1, he.2.1, he.2.2⟩

section
variable {ops : Array Oper} {rest : List Oper} {o : Oper} {a : Act} {Q : Exit → Act → World → Prop}
/-- Entries behind entries. -/
theorem app_ents (w : World) (hgd : o.guard = none) (s x : Operand) (ho : o.op = .call { callee := .builtin .append, args := #[s, x], argTypes := #[23, 23] })
    (base : Nat) (v : Value) (l : List Ent) (hs : a.eval s = v) (hown : w.ownsRow base 54 2 v l.length (encells l))
    (ad : Addr) (c : Nat) (r : List Ent) (m : Nat) (hm : m = r.length) (hx : a.eval x = .slice (some ad) m c) (hnews : ∀ j u, (encells r)[j]? = some u → w.cell? (ad.add j) = some u)
    (hsmall : (l.length + r.length) * 32 ≤ 140737488355328) (hbase : base ≤ w.heap.size)
    (h : ∀ v' w', w'.ownsRow base 54 2 v' (l ++ r).length (encells (l ++ r)) → w.grownBy w' v.ownBlock → wpList Try.prog ops Q rest (a.put o.dst v') w') : wpList Try.prog ops Q (o :: rest) a w := by
  obtain ⟨i0, hi, hz0, hz1, hz2⟩ := ent_info
  subst hm
  refine wpList_append_own w hgd s x 23 ho base 54 i0 (.agg #[.string ⟨#[]⟩, .string ⟨#[]⟩]) 2 32 Try.underlying23 hi hz0 hz1 hz2 rfl (by decide) v l.length (encells l) hs hown ad r.length c (encells r) hx (by rw [encells_length]) hnews
    (fun u hu => by
      obtain ⟨y, _, hy⟩ := List.mem_flatMap.1 hu
      rcases List.mem_cons.1 hy with rfl | hy
      · rfl
      · rw [List.mem_singleton.1 hy]; rfl) (by unfold maxLen; omega) hsmall hbase ?_
  intro v' w' h1 h2 _
  exact h v' w' (by rw [encells_append, List.length_append]; exact h1) h2
end
theorem ent_one (w : World) (x y : Bytes) (t : TypeId) : ∀ j u, (encells [(x, y)])[j]? = some u → (w.alloc (.cells #[.string (S x), .string (S y)] t)).cell? ((⟨w.heap.size, 0, none⟩ : Addr).add j) = some u := by
  intro j u hu
  rw [Go.WideShapes.add_plain, Nat.zero_add, World.cell?_alloc_new]
  simpa [encells] using hu


/-- A list of entries of the call's own. -/
def EntsGives (T : List Ent) (w : World) (e : Ending) (w' : World) : Prop := ∃ D d, e = .returned (.slice D T.length d) ∧ Row w' D (encells T) ∧ Below w.heap.size w w'
theorem own_shapeE {w : World} {base : Nat} {e : TypeId} {v : Value} {n : Nat} {xs : List Value} (h : w.ownsRow base e 2 v n xs) : ∃ A c, v = .slice A n c := own_shape h
theorem own_belowE {w w' : World} {base n : Nat} {e : TypeId} {v : Value} {xs : List Value} (h : w.ownsRow base e 2 v n xs) (hb : Below w.heap.size w w') : w'.ownsRow base e 2 v n xs :=
  h.kept (row := none) ⟨hb.os, hb.tape, hb.output, hb.size, fun k hk _ => hb.block k hk⟩ (by cases v.ownBlock <;> simp)
end Go.Proofs.Yteclnibbgdbjfaa
