/- A list of entries among a law's arguments: a list of names and values, in a row of cells. -/
import Derived.Test.YtmmmolbejfdamaaBook
import Derived.ProofKit
import Derived.OpenShut
import Derived.ChangeSame
import Derived.SizedLaws
import Derived.Deep.SlicePairs
import Derived.Test.YtmmmolbejfdamaaMarks
import Derived.ChangeSlices
import Derived.Deep.Strs
namespace Go.Proofs.Ytmmmolbejfdamaa
set_option maxRecDepth 100000
open Go.ChangeShapes Go.WideShapes Go.ChangeAt Go.RowKit

section
variable {H : Type} {enc : TypeId × Value → H} {W : World} {base : Nat} {v : Value} {d : DataW H} {ps : List MemPlace}

def strOf : Value → Bytes | .string s => s.data.toList | _ => []

theorem arg_ents_of (hv : ∃ a len cap, v = .slice a len cap) (h : DataW.Trod enc Try.prog W 0 (fun _ => true) true 22 v d ps) :
    ∃ (A : Option Addr) (c : Nat) (es : List Ent), v = .slice A es.length c ∧ es.length ≤ maxLen ∧ Row W A (encells es) ∧ (∀ x ∈ es, x.1.length ≤ maxLen ∧ x.2.length ≤ maxLen) ∧ es.length ≤ c ∧
      (d = .nil ∧ es = [] ∨ ∃ el sp : List (DataW H), d = .slice el sp ∧ el.length = es.length) := by
  obtain ⟨a0, len, cap, rfl⟩ := hv
  obtain ⟨fuel, hf⟩ := h
  rcases Go.Deep.open_slice_pairs Try.underlying22 Try.underlying34 (by kernel_rfl) rfl rfl (by kernel_rfl) (by kernel_rfl) hf with ⟨hcs, hx⟩ | ⟨a, len', cap', m, n, V0, V1, D0, D1, P0, P1, hcs, _, hl, hm, hz, hx, hcell⟩
  · have e : (Value.slice a0 len cap) = .slice none 0 0 := by simpa [Value.cells] using hcs
    injection e with e1 e2 e3
    subst e1; subst e2; subst e3
    injection hx with hx
    exact ⟨none, 0, [], rfl, by simp, Row.nil_ _ _, fun s hs => (by simp at hs), Nat.le_refl _, .inl ⟨hx, rfl⟩⟩
  · have e : (Value.slice a0 len cap) = .slice (some a) len' cap' := by simpa [Value.cells] using hcs
    injection e with e1 e2 e3
    subst e1; subst e2; subst e3
    simp only [if_true] at hz
    have hs : ∀ i, i < len → V0 i = .string (S (strOf (V0 i))) ∧ (strOf (V0 i)).length ≤ maxLen ∧ V1 i = .string (S (strOf (V1 i))) ∧ (strOf (V1 i)).length ≤ maxLen := by
      intro i hi
      obtain ⟨_, _, h1, h2⟩ := hcell i (by omega)
      obtain ⟨s1, e1, _, l1⟩ := DataW.trod_string Try.underlying9 h1
      obtain ⟨s2, e2, _, l2⟩ := DataW.trod_string Try.underlying9 h2
      simp only [List.cons.injEq, and_true] at e1 e2
      rw [e1, e2]
      refine ⟨by rw [strOf, ← S_of], ?_, by rw [strOf, ← S_of], ?_⟩
      · show s1.data.toList.length ≤ maxLen
        rw [Array.length_toList]
        exact l1
      · show s2.data.toList.length ≤ maxLen
        rw [Array.length_toList]
        exact l2
    have hlen : ((List.range len).map fun i => ((strOf (V0 i), strOf (V1 i)) : Ent)).length = len := by simp
    refine ⟨some a, cap, (List.range len).map fun i => (strOf (V0 i), strOf (V1 i)), by rw [hlen], by rw [hlen]; omega, fun h0 => ?_, ?_, by rw [hlen]; exact hl, ?_⟩
    · rw [encells_length, hlen] at h0
      obtain ⟨b, off, spot⟩ := a
      have hspot : spot = none := by simpa [Addr.add] using World.cell?_spot (hcell 0 (by omega)).1
      subst hspot
      refine ⟨b, off, rfl, fun k hk => ?_⟩
      rw [encells_length, hlen] at hk
      have hi : k / 2 < len := by omega
      have hg := encells_get ((List.range len).map fun i => ((strOf (V0 i), strOf (V1 i)) : Ent)) (k / 2) (by rw [hlen]; exact hi)
      obtain ⟨h1, h2, _, _⟩ := hcell (k / 2) (by omega)
      obtain ⟨s1, _, s2, _⟩ := hs (k / 2) hi
      rw [Go.WideShapes.add_plain] at h1 h2
      simp only [List.getElem_map, List.getElem_range] at hg
      rcases (by omega : k = k / 2 * 2 ∨ k = k / 2 * 2 + 1) with hk2 | hk2
      · obtain ⟨l1, e1⟩ := List.getElem?_eq_some_iff.1 hg.1
        have e3 : (encells ((List.range len).map fun i => ((strOf (V0 i), strOf (V1 i)) : Ent)))[k] = .string (S (strOf (V0 (k / 2)))) := by
          rw [← e1]
          congr 1
        rw [e3, ← s1, ← h1]
        congr 2
        omega
      · obtain ⟨l1, e1⟩ := List.getElem?_eq_some_iff.1 hg.2
        have e3 : (encells ((List.range len).map fun i => ((strOf (V0 i), strOf (V1 i)) : Ent)))[k] = .string (S (strOf (V1 (k / 2)))) := by
          rw [← e1]
          congr 1
        rw [e3, ← s2, ← h2]
        congr 2
        omega
    · intro x hx
      obtain ⟨i, hi, rfl⟩ := List.mem_map.1 hx
      have := hs i (List.mem_range.1 hi)
      exact ⟨this.2.1, this.2.2.2⟩
    · injection hx with hx
      exact .inr ⟨_, _, hx, by simp⟩
theorem arg_ents (hok : Value.okWide Try.prog W .any base 22 v) (h : DataW.Trod enc Try.prog W 0 (fun _ => true) true 22 v d ps) :
    ∃ (A : Option Addr) (c : Nat) (es : List Ent), v = .slice A es.length c ∧ es.length ≤ maxLen ∧ Row W A (encells es) ∧ (∀ x ∈ es, x.1.length ≤ maxLen ∧ x.2.length ≤ maxLen) ∧ es.length ≤ c ∧
      (d = .nil ∧ es = [] ∨ ∃ el sp : List (DataW H), d = .slice el sp ∧ el.length = es.length) :=
  arg_ents_of (okWide_slice Try.underlying22 hok) h
/-- .. within the form's own reach. -/
theorem arg_ents_sized {ts : List TypeId} {ds : List (DataW H)} {j : Nat} (hsz : (DataW.weightsEach Try.prog ts ds).all (· ≤ reachBytes) = true) (ht : ts[j]? = some 22) (hd : ds[j]? = some d)
    (hok : Value.okWide Try.prog W .any base 22 v) (h : DataW.Trod enc Try.prog W 0 (fun _ => true) true 22 v d ps) :
    ∃ (A : Option Addr) (c : Nat) (es : List Ent), v = .slice A es.length c ∧ es.length * 32 ≤ 140737488351232 ∧ Row W A (encells es) ∧ (∀ x ∈ es, x.1.length ≤ maxLen ∧ x.2.length ≤ maxLen) ∧ es.length ≤ c := by
  obtain ⟨A, c, es, rfl, hm, hr, hs, hcc, hdd⟩ := arg_ents hok h
  refine ⟨A, c, es, rfl, ?_, hr, hs, hcc⟩
  rcases hdd with ⟨_, rfl⟩ | ⟨el, sp, rfl, he⟩
  · simp
  · have := sized_slice hsz ht hd Try.underlying22
    have hb : Try.prog.bytesOf 34 = 32 := by kernel_rfl
    have hR : reachBytes = 140737488351232 := by kernel_rfl
    rw [hb, hR] at this
    omega
/-- One entry among the arguments. -/
theorem arg_ent (hok : Value.okWide Try.prog W .any base 34 v) (h : DataW.Trod enc Try.prog W 0 (fun _ => true) true 34 v d ps) :
    ∃ a b : Bytes, v = .agg #[.string (S a), .string (S b)] ∧ a.length ≤ maxLen ∧ b.length ≤ maxLen := by
  obtain ⟨cs, rfl, hcs⟩ := okWide_struct Try.underlying34 hok
  have hc : Try.prog.cellsOf 34 = 2 := by kernel_rfl
  have hc1 : Try.prog.cellsOf 9 = 1 := by kernel_rfl
  obtain ⟨fuel, hf⟩ := h
  obtain ⟨y0, y1, n, _, _, h0, h1⟩ := trod_struct2 Try.underlying34 hf
  rw [hc] at hcs
  obtain ⟨l⟩ := cs
  match l, hcs with
  | [c0, c1], _ =>
    simp [Value.cells, hc1] at h0 h1
    obtain ⟨s1, e1, _, l1⟩ := DataW.trod_string Try.underlying9 h0
    obtain ⟨s2, e2, _, l2⟩ := DataW.trod_string Try.underlying9 h1
    simp only [List.cons.injEq, and_true] at e1 e2
    subst e1; subst e2
    refine ⟨s1.data.toList, s2.data.toList, by rw [← S_of, ← S_of], ?_, ?_⟩
    · rw [Array.length_toList]; exact l1
    · rw [Array.length_toList]; exact l2
end
end Go.Proofs.Ytmmmolbejfdamaa
/- A proof among a law's arguments: a name, a list of entries and a list of hashes, in rows of cells. -/
namespace Go.Proofs.Ytmmmolbejfdamaa
set_option maxRecDepth 100000
open Go.ChangeShapes Go.WideShapes Go.ChangeAt Go.RowKit

section
variable {H : Type} {enc : TypeId × Value → H} {W : World} {base : Nat} {v : Value} {d : DataW H} {ps : List MemPlace}

theorem arg_marks_of (hv : ∃ a len cap, v = .slice a len cap) (h : DataW.Trod enc Try.prog W 0 (fun _ => true) true 51 v d ps) :
    ∃ (A : Option Addr) (c : Nat) (ss : List Nat), v = .slice A ss.length c ∧ ss.length ≤ maxLen ∧ Row W A (mcells ss) ∧ (∀ z ∈ ss, z < 18446744073709551616) ∧ ss.length ≤ c ∧
      (d = .nil ∧ ss = [] ∨ ∃ el sp : List (DataW H), d = .slice el sp ∧ el.length = ss.length) := by
  obtain ⟨a0, len, cap, rfl⟩ := hv
  obtain ⟨fuel, hf⟩ := h
  rcases open_ints Try.underlying51 Try.underlying46 (by kernel_rfl) hf with ⟨hcs, hx⟩ | ⟨a, len', cap', ns, hcs, _, hl, hm, hz, hx, hcell, hws⟩
  · have e : (Value.slice a0 len cap) = .slice none 0 0 := by simpa [Value.cells] using hcs
    injection e with e1 e2 e3
    subst e1; subst e2; subst e3
    exact ⟨none, 0, [], rfl, by simp, Row.nil_ _ _, fun s hs => (by simp at hs), Nat.le_refl _, .inl ⟨by injection hx, rfl⟩⟩
  · have e : (Value.slice a0 len cap) = .slice (some a) len' cap' := by simpa [Value.cells] using hcs
    injection e with e1 e2 e3
    subst e1; subst e2; subst e3
    simp only [if_true] at hz
    have hlen : ((ns.take len).map fun z : Int => z.toNat).length = len := by simp; omega
    refine ⟨some a, cap, (ns.take len).map fun z => z.toNat, by rw [hlen], by omega, fun h0 => ?_, ?_, by rw [hlen]; exact hl, .inr ⟨_, _, by injection hx, by rw [hlen]; simp [lits]; omega⟩⟩
    · rw [mcells_length, hlen] at h0
      obtain ⟨b, off, spot⟩ := a
      have hspot : spot = none := by simpa [Addr.add] using World.cell?_spot (hcell 0 (by omega))
      subst hspot
      refine ⟨b, off, rfl, fun k hk => ?_⟩
      rw [mcells_length, hlen] at hk
      have := hcell k (by omega)
      rw [Go.WideShapes.add_plain] at this
      rw [this]
      have hw := bounds_u64 (hws _ (List.getElem_mem (show k < ns.length by omega)))
      simp [mcells, List.getD, show k < ns.length by omega]
      omega
    · intro z hz
      obtain ⟨b, hb, rfl⟩ := List.mem_map.1 hz
      have := bounds_u64 (hws b (List.mem_of_mem_take hb))
      omega
/-- One proof among the arguments. -/
theorem arg_prf_at (hok : Value.okWide Try.prog W .any base 53 v) (h : DataW.Trod enc Try.prog W 0 (fun _ => true) true 53 v d ps) :
    ∃ (n : Bytes) (A : Option Addr) (c : Nat) (es : List Ent) (B : Option Addr) (e : Nat) (ss : List Nat), v = .agg #[.string (S n), .slice A es.length c, .slice B ss.length e] ∧ n.length ≤ maxLen ∧ es.length ≤ maxLen ∧ Row W A (encells es) ∧ (∀ x ∈ es, x.1.length ≤ maxLen ∧ x.2.length ≤ maxLen) ∧ es.length ≤ c ∧
      ss.length ≤ maxLen ∧ Row W B (mcells ss) ∧ (∀ z ∈ ss, z < 18446744073709551616) ∧ ss.length ≤ e ∧
      ∃ d0 d1 d2 : DataW H, d = .agg [d0, d1, d2] ∧ (d1 = .nil ∧ es = [] ∨ ∃ el sp : List (DataW H), d1 = .slice el sp ∧ el.length = es.length) ∧ (d2 = .nil ∧ ss = [] ∨ ∃ el sp : List (DataW H), d2 = .slice el sp ∧ el.length = ss.length) := by
  obtain ⟨cs, rfl, hcs⟩ := okWide_struct Try.underlying53 hok
  have hc : Try.prog.cellsOf 53 = 3 := by kernel_rfl
  have hc1 : Try.prog.cellsOf 9 = 1 := by kernel_rfl
  have hc2 : Try.prog.cellsOf 22 = 1 := by kernel_rfl
  have hc3 : Try.prog.cellsOf 51 = 1 := by kernel_rfl
  obtain ⟨fuel, hf⟩ := h
  obtain ⟨y0, y1, y2, k, hd, _, h0, h1, h2⟩ := Go.Deep.trod_struct3 Try.underlying53 hf
  rw [hc] at hcs
  obtain ⟨l⟩ := cs
  match l, hcs with
  | [c0, c1, c2], _ =>
    simp [Value.cells, hc1, hc2, hc3] at h0 h1 h2
    obtain ⟨s1, e1, _, l1⟩ := DataW.trod_string Try.underlying9 h0
    simp only [List.cons.injEq, and_true] at e1
    subst e1
    have v1 : ∃ a len cap, c1 = .slice a len cap := by
      rcases Go.Deep.open_slice_pairs Try.underlying22 Try.underlying34 (by kernel_rfl) rfl rfl (by kernel_rfl) (by kernel_rfl) h1 with ⟨e, _⟩ | ⟨a, len, cap, _, _, _, _, _, _, _, _, e, _⟩
      · exact ⟨none, 0, 0, by simpa using e⟩
      · exact ⟨some a, len, cap, by simpa using e⟩
    have v2 : ∃ a len cap, c2 = .slice a len cap := by
      rcases open_ints Try.underlying51 Try.underlying46 (by kernel_rfl) h2 with ⟨e, _⟩ | ⟨a, len, cap, _, e, _⟩
      · exact ⟨none, 0, 0, by simpa using e⟩
      · exact ⟨some a, len, cap, by simpa using e⟩
    obtain ⟨A, c, es, rfl, q1, q2, q3, q4, q5⟩ := arg_ents_of v1 (⟨k, by obtain ⟨a, b, c, rfl⟩ := v1; simpa [Value.cells] using h1⟩ : DataW.Trod enc Try.prog W 0 (fun _ => true) true 22 c1 y1.1 y1.2)
    obtain ⟨B, e, ss, rfl, r1, r2, r3, r4, r5⟩ := arg_marks_of v2 (⟨k, by obtain ⟨a, b, c, rfl⟩ := v2; simpa [Value.cells] using h2⟩ : DataW.Trod enc Try.prog W 0 (fun _ => true) true 51 c2 y2.1 y2.2)
    exact ⟨s1.data.toList, A, c, es, B, e, ss, by rw [← S_of], l1, q1, q2, q3, q4, r1, r2, r3, r4, y0.1, y1.1, y2.1, by injection hd, q5, r5⟩
theorem arg_prf (hok : Value.okWide Try.prog W .any base 53 v) (h : DataW.Trod enc Try.prog W 0 (fun _ => true) true 53 v d ps) :
    ∃ (n : Bytes) (A : Option Addr) (c : Nat) (es : List Ent) (B : Option Addr) (e : Nat) (ss : List Nat), v = .agg #[.string (S n), .slice A es.length c, .slice B ss.length e] ∧ n.length ≤ maxLen ∧ es.length ≤ maxLen ∧ Row W A (encells es) ∧ (∀ x ∈ es, x.1.length ≤ maxLen ∧ x.2.length ≤ maxLen) ∧ es.length ≤ c ∧
      ss.length ≤ maxLen ∧ Row W B (mcells ss) ∧ (∀ z ∈ ss, z < 18446744073709551616) ∧ ss.length ≤ e := by
  obtain ⟨n, A, c, es, B, e, ss, h1, h2, h3, h4, h5, h6, h7, h8, h9, h10, _⟩ := arg_prf_at hok h
  exact ⟨n, A, c, es, B, e, ss, h1, h2, h3, h4, h5, h6, h7, h8, h9, h10⟩
/-- .. within the form's own reach. -/
theorem arg_prf_sized {ts : List TypeId} {ds : List (DataW H)} {j : Nat} (hsz : (DataW.weightsEach Try.prog ts ds).all (· ≤ reachBytes) = true) (ht : ts[j]? = some 53) (hd : ds[j]? = some d)
    (hok : Value.okWide Try.prog W .any base 53 v) (h : DataW.Trod enc Try.prog W 0 (fun _ => true) true 53 v d ps) :
    ∃ (n : Bytes) (A : Option Addr) (c : Nat) (es : List Ent) (B : Option Addr) (e : Nat) (ss : List Nat), v = .agg #[.string (S n), .slice A es.length c, .slice B ss.length e] ∧ n.length ≤ maxLen ∧ es.length * 32 ≤ 140737488351232 ∧ Row W A (encells es) ∧ (∀ x ∈ es, x.1.length ≤ maxLen ∧ x.2.length ≤ maxLen) ∧ es.length ≤ c ∧
      ss.length * 8 ≤ 140737488351232 ∧ Row W B (mcells ss) ∧ (∀ z ∈ ss, z < 18446744073709551616) ∧ ss.length ≤ e := by
  obtain ⟨n, A, c, es, B, e, ss, h1, h2, h3, h4, h5, h6, h7, h8, h9, h10, d0, d1, d2, rfl, hx1, hx2⟩ := arg_prf_at hok h
  have hR : reachBytes = 140737488351232 := by kernel_rfl
  have hin : (DataW.weightsEach Try.prog [9, 22, 51] [d0, d1, d2]).all (· ≤ reachBytes) = true := by
    rw [List.all_eq_true] at hsz ⊢
    intro x hx
    exact hsz x (DataW.weights_mem_each ht hd x (by simpa [DataW.weights, Try.underlying53] using hx))
  refine ⟨n, A, c, es, B, e, ss, h1, h2, ?_, h4, h5, h6, ?_, h8, h9, h10⟩
  · rcases hx1 with ⟨_, rfl⟩ | ⟨el, sp, rfl, he⟩
    · simp
    · have := sized_slice hin (j := 1) rfl rfl Try.underlying22
      have hb : Try.prog.bytesOf 34 = 32 := by kernel_rfl
      rw [hb, hR] at this
      omega
  · rcases hx2 with ⟨_, rfl⟩ | ⟨el, sp, rfl, he⟩
    · simp
    · have := sized_slice hin (j := 2) rfl rfl Try.underlying51
      have hb : Try.prog.bytesOf 46 = 8 := by kernel_rfl
      rw [hb, hR] at this
      omega
end
end Go.Proofs.Ytmmmolbejfdamaa
