/- The reference: ProofSaid returns the preimages along the path of a proof, ProofRoot the hash of the last one. They write nothing that was there. -/
import Derived.Test.YtmmmolbejfdamaaRefProof
import Derived.Test.YtmmmolbejfdamaaRefOrder
import Derived.Test.YtmmmolbejfdamaaRefLeaf
namespace Go.Proofs.Ytmmmolbejfdamaa
set_option maxRecDepth 100000
open Go.RowKit

theorem leafBytes_lim (l : List Ent) (hl : ∀ x ∈ l, x.1.length + x.2.length ≤ 596) : (leafBytes l).length ≤ l.length * 600 := by
  induction l with
  | nil => simp [leafBytes]
  | cons x l ih =>
    have := ih fun y hy => hl y (List.mem_cons_of_mem _ hy)
    have h1 := hl x List.mem_cons_self
    have e : leafBytes (x :: l) = Wire.enc [x.1, x.2] ++ leafBytes l := by simp [leafBytes]
    rw [e, List.length_append, Wire.enc_length, List.length_cons]
    simp only [Wire.encLen_cons, Wire.encLen_nil]
    omega
theorem nodeOf_lim (a b : Nat) : (nodeOf a b).length ≤ 17 := by
  unfold nodeOf
  split
  · simp
  · simp [said, be8]
theorem climb_le (n : Bytes) (es : List Ent) (ss : List Nat) (hm : es.length ≤ 1000) (hes : ∀ x ∈ es, x.1.length + x.2.length ≤ 596) (i : Nat) : (climb n es ss i).length ≤ maxLen := by
  unfold maxLen
  cases i with
  | zero =>
    have := leafBytes_lim es hes
    rw [climb, leafOf]
    split
    · simp
    · rw [List.length_cons]; omega
  | succ i =>
    rw [climb, up]
    split
    · have := nodeOf_lim (Hash.of (climb n es ss i)) (ss[i]?.getD 0); omega
    · have := nodeOf_lim (ss[i]?.getD 0) (Hash.of (climb n es ss i)); omega
theorem Row.str1 {w : World} {A : Option Addr} {ss : List Bytes} (h : Row w A (scells ss)) (k : Nat) (s : Bytes) (hk : ss[k]? = some s) : ∃ g off, A = some ⟨g, off, none⟩ ∧ w.cell? ⟨g, off + k, none⟩ = some (.string (S s)) := by
  obtain ⟨hl, e⟩ := List.getElem?_eq_some_iff.1 hk
  obtain ⟨g, off, e1, hc⟩ := h (by rw [scells_length]; omega)
  refine ⟨g, off, e1, ?_⟩
  rw [hc k (by rw [scells_length]; exact hl)]
  simp [scells, e]
theorem PBox.grown {w w' : World} {g : Nat} {n : Bytes} {A B : Option Addr} {k c m d : Nat} {row : Option Nat} (h : PBox w g n A k c B m d) (hg : w.grownBy w' row) (hne : some g ≠ row) : PBox w' g n A k c B m d :=
  ⟨(hg.cell_far _ (World.block_lt_of_cell? _ _ h.p0) hne).trans h.p0, (hg.cell_far _ (World.block_lt_of_cell? _ _ h.p1) hne).trans h.p1, (hg.cell_far _ (World.block_lt_of_cell? _ _ h.p2) hne).trans h.p2⟩
theorem own_one (w : World) (base : Nat) (hb : base ≤ w.heap.size) (s : Bytes) : (w.alloc (.cells #[.string (S s)] 9)).ownsRow base 9 1 (.slice (some ⟨w.heap.size, 0, none⟩) 1 1) 1 (scells [s]) :=
  ⟨rfl, .inr ⟨w.heap.size, 1, _, rfl, hb, heap_alloc_new w _, Nat.le_refl _, by decide, rfl, rfl⟩⟩
theorem psaid_front (n : Bytes) (es : List Ent) (ss : List Nat) (k : Nat) : (List.range (k + 1 + 1)).map (climb n es ss) = (List.range (k + 1)).map (climb n es ss) ++ [climb n es ss (k + 1)] := by
  rw [List.range_succ, List.map_append]
  rfl

end Go.Proofs.Ytmmmolbejfdamaa
