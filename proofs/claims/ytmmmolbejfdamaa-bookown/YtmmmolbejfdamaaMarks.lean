/- Rows of uint64. -/
import Derived.Test.YtmmmolbejfdamaaApps
import Derived.Test.YtmmmolbejfdamaaBook
namespace Go.Proofs.Ytmmmolbejfdamaa
set_option maxRecDepth 100000
open Go.RowKit

def mcells (ss : List Nat) : List Value := ss.map fun z : Nat => .int .u64 (z : Int)
theorem mcells_length (ss : List Nat) : (mcells ss).length = ss.length := by simp [mcells]
theorem mcells_append (a b : List Nat) : mcells (a ++ b) = mcells a ++ mcells b := by simp [mcells]
theorem Row.mark {w : World} {A : Option Addr} {ss : List Nat} (h : Row w A (mcells ss)) (k : Nat) (hk : k < ss.length) : ∃ g off, A = some ⟨g, off, none⟩ ∧ w.cell? ⟨g, off + k, none⟩ = some (.int .u64 (ss[k] : Int)) := by
  obtain ⟨g, off, e, hc⟩ := h (by rw [mcells_length]; omega)
  refine ⟨g, off, e, ?_⟩
  rw [hc k (by rw [mcells_length]; exact hk)]
  simp [mcells]
set_option maxRecDepth 100000 in
theorem u64_info : ∃ i, Try.prog.info? 46 = some i ∧ i.zero = some (.int .u64 0) ∧ i.size = 1 ∧ i.bytes = 8 := by
  refine ⟨_, rfl, ?_, ?_, ?_⟩ <;> rfl

section
variable {ops : Array Oper} {rest : List Oper} {o : Oper} {a : Act} {Q : Exit → Act → World → Prop}
/-- Hashes behind hashes. -/
theorem app_marks (w : World) (hgd : o.guard = none) (s x : Operand) (ho : o.op = .call { callee := .builtin .append, args := #[s, x], argTypes := #[51, 51] })
    (base : Nat) (v : Value) (l : List Nat) (hs : a.eval s = v) (hown : w.ownsRow base 46 1 v l.length (mcells l))
    (ad : Addr) (c : Nat) (r : List Nat) (m : Nat) (hm : m = r.length) (hx : a.eval x = .slice (some ad) m c) (hnews : ∀ j u, (mcells r)[j]? = some u → w.cell? (ad.add j) = some u)
    (hsmall : (l.length + r.length) * 8 ≤ 140737488355328) (hbase : base ≤ w.heap.size)
    (h : ∀ v' w', w'.ownsRow base 46 1 v' (l ++ r).length (mcells (l ++ r)) → w.grownBy w' v.ownBlock → wpList Try.prog ops Q rest (a.put o.dst v') w') : wpList Try.prog ops Q (o :: rest) a w := by
  obtain ⟨i0, hi, hz0, hz1, hz2⟩ := u64_info
  subst hm
  refine wpList_append_own w hgd s x 51 ho base 46 i0 (.int .u64 0) 1 8 Try.underlying51 hi hz0 hz1 hz2 rfl (by decide) v l.length (mcells l) hs hown ad r.length c (mcells r) hx (by rw [mcells_length]; omega) hnews
    (fun u hu => by obtain ⟨_, _, rfl⟩ := List.mem_map.1 hu; rfl) (by unfold maxLen; omega) hsmall hbase ?_
  intro v' w' h1 h2 _
  exact h v' w' (by rw [mcells_append, List.length_append]; exact h1) h2
end
theorem mark_one (w : World) (z : Nat) (t : TypeId) : ∀ j u, (mcells [z])[j]? = some u → (w.alloc (.cells #[.int .u64 (z : Int)] t)).cell? ((⟨w.heap.size, 0, none⟩ : Addr).add j) = some u := by
  intro j u hu
  rw [Go.WideShapes.add_plain, Nat.zero_add, World.cell?_alloc_new]
  simpa [mcells] using hu


end Go.Proofs.Ytmmmolbejfdamaa
/- The reference: SameBook returns whether two books are the same. It writes nothing that was there. -/
namespace Go.Proofs.Ytmmmolbejfdamaa
set_option maxRecDepth 100000
open Go.RowKit

end Go.Proofs.Ytmmmolbejfdamaa
