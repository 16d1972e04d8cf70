/- append onto rows of requests of the call's own, and in which block the new row lies; a list of ints among a law's arguments. -/
import Derived.Test.YtknhohlpjhkmfaaAskMore
import Derived.Test.YtknhohlpjhkmfaaEqInts
import Derived.Test.YtknhohlpjhkmfaaLaw
import Derived.Maps.AppendAt
import Derived.ChangeSlices
namespace Go.Proofs.Ytknhohlpjhkmfaa
set_option maxRecDepth 100000
open Go.ChangeShapes Go.WideShapes Go.ChangeAt Go.RowKit

theorem run_appQat (w : World) (ty : TypeId) (base : Nat) (v : Value) (l : List Ak) (hown : w.ownsRow base 27 4 v l.length (qcells l))
    (B : Option Addr) (c : Nat) (r : List Ak) (hB : Row w B (qcells r)) (hsmall : (l.length + r.length) * 48 ≤ 140737488355328) (hbase : base ≤ w.heap.size) :
    ∃ v' w', (Builtin.append_ #[22, 22] ty #[v, .slice B r.length c]).run Try.prog w = .ok v' w' ∧ w'.ownsRow base 27 4 v' (l ++ r).length (qcells (l ++ r)) ∧ w.grownBy w' v.ownBlock ∧ (v'.ownBlock = v.ownBlock ∨ v'.ownBlock = some w.heap.size) := by
  obtain ⟨i0, hi, hz0, hz1, hz2⟩ := ak_info
  by_cases h0 : r = []
  · subst h0
    refine ⟨v, w, ?_, by rw [List.append_nil]; exact hown, World.grownBy.refl w _, .inl rfl⟩
    rcases hown.2 with ⟨rfl, e0⟩ | ⟨g, cap, cur, rfl, _, _, hnc, _⟩
    · cases B <;> simp [Builtin.append_, run_underlying Try.underlying22, sizeOf, typeInfo, hi, Builtin.lenOf, Builtin.firstCells, loadCells, loadCellsFrom]
    · cases B <;> simp [Builtin.append_, run_underlying Try.underlying22, sizeOf, typeInfo, hi, Builtin.lenOf, Builtin.firstCells, loadCells, loadCellsFrom, hnc, storeCells]
  · have hr := List.length_pos_iff.2 h0
    obtain ⟨gb, off, rfl, hc⟩ := hB (by rw [qcells_length]; omega)
    have hnews : ∀ j u, (qcells r)[j]? = some u → w.cell? ((⟨gb, off, none⟩ : Addr).add j) = some u := fun j u hu => by
      obtain ⟨hj, rfl⟩ := List.getElem?_eq_some_iff.1 hu
      rw [Go.WideShapes.add_plain]
      exact hc j hj
    obtain ⟨v', w', h1, h2, h3, _, h5⟩ := run_append_own_at (P := Try.prog) w base 22 ty 27 i0 (.agg #[.string ⟨#[]⟩, .string ⟨#[]⟩, .int .u64 0, .int .u64 0]) 4 48 Try.underlying22 hi hz0 hz1 hz2 rfl (by decide) v l.length (qcells l) hown ⟨gb, off, none⟩ r.length c (qcells r) (qcells_length r) hnews (ak_one r) (by unfold maxLen; omega) hsmall hbase
    exact ⟨v', w', h1, by rw [List.length_append, qcells_append]; exact h2, h3, h5⟩
/-- .. as one step of a region that draws. -/
theorem step_app_asksAt {ops : Array Oper} {o : Oper} {a : Act} {w : World} {K : Act → World → Prop} {Q : Exit → Act → World → Prop} {E : Prop} (hgd : o.guard = none) (s x : Operand)
    (ho : o.op = .call { callee := .builtin .append, args := #[s, x], argTypes := #[22, 22] })
    (base : Nat) (v : Value) (l : List Ak) (hs : a.eval s = v) (hown : w.ownsRow base 27 4 v l.length (qcells l))
    (B : Option Addr) (c : Nat) (r : List Ak) (hx : a.eval x = .slice B r.length c) (hB : Row w B (qcells r)) (hsmall : (l.length + r.length) * 48 ≤ 140737488355328) (hbase : base ≤ w.heap.size)
    (h : ∀ v' w', w'.ownsRow base 27 4 v' (l ++ r).length (qcells (l ++ r)) → w.grownBy w' v.ownBlock → (v'.ownBlock = v.ownBlock ∨ v'.ownBlock = some w.heap.size) → K (a.put o.dst v') w') :
    if Region.wanted o (yielded ops a.tmps) = true then Oper.wp Try.prog o a w K Q else E := by
  have hw : Region.wanted o (yielded ops a.tmps) = true := by simp [Region.wanted, hgd]
  rw [if_pos hw]
  obtain ⟨v', w', hrun, h1, h2, h3⟩ := run_appQat w o.type base v l hown B c r hB hsmall hbase
  unfold Oper.wp
  simp [execOp, ho, resolve, invoke, builtin, hs, hx, hrun, Result.andThen]
  exact h v' w' h1 h2 h3

section
variable {H : Type} {enc : TypeId × Value → H} {W : World} {base : Nat} {v : Value} {d : DataW H} {ps : List MemPlace}
/-- A list of ints among the arguments. -/
theorem arg_ints (hok : Value.okWide Try.prog W .any base 41 v) (h : DataW.Trod enc Try.prog W 0 (fun _ => true) true 41 v d ps) :
    ∃ (A : Option Addr) (c : Nat) (zs : List Int), v = .slice A zs.length c ∧ zs.length ≤ maxLen ∧ Row W A (icells zs) ∧ zs.length ≤ c := by
  obtain ⟨a0, len, cap, rfl⟩ := okWide_slice Try.underlying41 hok
  obtain ⟨fuel, hf⟩ := h
  rcases open_ints Try.underlying41 Try.underlying3 (by kernel_rfl) hf with ⟨hcs, hx⟩ | ⟨a, len', cap', ns, hcs, _, hl, hm, hz, hx, hcell, hws⟩
  · have e : (Value.slice a0 len cap) = .slice none 0 0 := by simpa [Value.cells] using hcs
    injection e with e1 e2 e3
    subst e1; subst e2; subst e3
    exact ⟨none, 0, [], rfl, by simp, Row.nil_ _ _, Nat.le_refl _⟩
  · have e : (Value.slice a0 len cap) = .slice (some a) len' cap' := by simpa [Value.cells] using hcs
    injection e with e1 e2 e3
    subst e1; subst e2; subst e3
    simp only [if_true] at hz
    have hlen : (ns.take len).length = len := by simp; omega
    refine ⟨some a, cap, ns.take len, by rw [hlen], by omega, fun h0 => ?_, by rw [hlen]; exact hl⟩
    rw [icells_length, hlen] at h0
    obtain ⟨b, off, spot⟩ := a
    have hspot : spot = none := by simpa [Addr.add] using World.cell?_spot (hcell 0 (by omega))
    subst hspot
    refine ⟨b, off, rfl, fun k hk => ?_⟩
    rw [icells_length, hlen] at hk
    have := hcell k (by omega)
    rw [Go.WideShapes.add_plain] at this
    rw [this]
    simp [icells, List.getD, show k < ns.length by omega]
end
theorem Row.int {w : World} {A : Option Addr} {zs : List Int} (h : Row w A (icells zs)) (k : Nat) (hk : k < zs.length) : ∃ g off, A = some ⟨g, off, none⟩ ∧ w.cell? ⟨g, off + k, none⟩ = some (.int .i64 zs[k]) := by
  obtain ⟨g, off, e, hc⟩ := h (by rw [icells_length]; omega)
  refine ⟨g, off, e, ?_⟩
  rw [hc k (by rw [icells_length]; exact hk)]
  simp [icells]
end Go.Proofs.Ytknhohlpjhkmfaa
