/- The reference: ProofFault returns the first error of a proof, SameProof whether two proofs are the same. They write nothing that was there. -/
import Derived.Test.YtmmmolbejfdamaaLeaves
import Derived.Test.YtmmmolbejfdamaaMarks
import Derived.Test.YtmmmolbejfdamaaRefFault
namespace Go.Proofs.Ytmmmolbejfdamaa
set_option maxRecDepth 100000
open Go.RowKit

/-- A proof in its box. -/
structure PBox (w : World) (g : Nat) (n : Bytes) (A : Option Addr) (k c : Nat) (B : Option Addr) (m d : Nat) : Prop where
  p0 : w.cell? ⟨g, 0, none⟩ = some (.string (S n))
  p1 : w.cell? ⟨g, 1, none⟩ = some (.slice A k c)
  p2 : w.cell? ⟨g, 2, none⟩ = some (.slice B m d)
theorem PBox.below {w w' : World} {g : Nat} {n : Bytes} {A B : Option Addr} {k c m d : Nat} (h : PBox w g n A k c B m d) (hb : Below w.heap.size w w') : PBox w' g n A k c B m d := ⟨kept h.p0 hb, kept h.p1 hb, kept h.p2 hb⟩
theorem PBox.new (w : World) (n : Bytes) (A B : Option Addr) (k c m d : Nat) (t : TypeId) : PBox (w.alloc (.cells #[.string (S n), .slice A k c, .slice B m d] t)) w.heap.size n A k c B m d :=
  ⟨by rw [World.cell?_alloc_new]; rfl, by rw [World.cell?_alloc_new]; rfl, by rw [World.cell?_alloc_new]; rfl⟩
theorem PBox.alloc {w : World} {g : Nat} {n : Bytes} {A B : Option Addr} {k c m d : Nat} (h : PBox w g n A k c B m d) (o : Obj) : PBox (w.alloc o) g n A k c B m d := h.below ((Below.refl _ _).alloc (Nat.le_refl _) o)

theorem refPathS (l : Bytes) (w : World) (hl : l.length ≤ maxLen) :
    Calls Try.prog 42 #[.string (S l)] w fun e w' => e = .returned (.string (S (Bin.of l))) ∧ w' = w :=
  (refPath l w hl).mono fun _ _ h => ⟨h.1, h.2.symm⟩

theorem sameWay_step (n : Bytes) (es : List Ent) (k : Nat) (h : k < es.length) : sameWay n (es.take (k + 1)) = (sameWay n (es.take k) && Bin.of es[k].1 == Bin.of n) := by
  unfold sameWay
  rw [List.take_succ_eq_append_getElem h, List.all_append, List.all_cons, List.all_nil, Bool.and_true]
theorem sameWay_not (n : Bytes) (es : List Ent) (k : Nat) (h : k < es.length) (hne : ¬ Bin.of es[k].1 = Bin.of n) : sameWay n es = false := by
  unfold sameWay
  rw [List.all_eq_false]
  exact ⟨es[k], List.getElem_mem h, fun e => hne (beq_iff_eq.1 e)⟩
theorem lowM_step (ss : List Nat) (k : Nat) (h : k < ss.length) : lowM (ss.take (k + 1)) = (lowM (ss.take k) && decide (ss[k] < 2305843009213693951)) := by
  unfold lowM
  rw [List.take_succ_eq_append_getElem h, List.all_append, List.all_cons, List.all_nil, Bool.and_true]
theorem lowM_not (ss : List Nat) (k : Nat) (h : k < ss.length) (hne : ¬ ss[k] < 2305843009213693951) : lowM ss = false := by
  unfold lowM
  rw [List.all_eq_false]
  exact ⟨ss[k], List.getElem_mem h, fun e => hne (of_decide_eq_true e)⟩

end Go.Proofs.Ytmmmolbejfdamaa
