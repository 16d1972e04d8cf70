/- A list of heads among a law's arguments, in a row of cells. -/
import Derived.Test.YthkhafgcpmoalaaHeadRow
import Derived.Test.YthkhafgcpmoalaaHeadArgs
import Derived.Deep.Slices
import Derived.Deep.SlicePairs
namespace Go.Proofs.Ythkhafgcpmoalaa
set_option maxRecDepth 100000
open Go.ChangeShapes Go.WideShapes Go.ChangeAt Go.RowKit Go.Joins

section
variable {H : Type} {enc : TypeId × Value → H} {W : World} {base : Nat} {v : Value} {d : DataW H} {ps : List MemPlace}

theorem arg_heads_of (hv : ∃ a len cap, v = .slice a len cap) (h : DataW.Trod enc Try.prog W 0 (fun _ => true) true 22 v d ps) :
    ∃ (A : Option Addr) (c : Nat) (l : List Hd), v = .slice A l.length c ∧ l.length ≤ maxLen ∧ Row W A (hcells l) ∧ l.length ≤ c ∧ c ≤ maxLen ∧ (∀ x ∈ l, (-9223372036854775808 ≤ x.1 ∧ x.1 ≤ 9223372036854775807) ∧ x.2.1 < 18446744073709551616 ∧ x.2.2.1 < 18446744073709551616 ∧ (-9223372036854775808 ≤ x.2.2.2 ∧ x.2.2.2 ≤ 9223372036854775807)) ∧
      (d = .nil ∧ l = [] ∨ ∃ el sp : List (DataW H), d = .slice el sp ∧ el.length = l.length) := by
  obtain ⟨a0, len, cap, rfl⟩ := hv
  obtain ⟨fuel, hf⟩ := h
  have hc : Try.prog.cellsOf 25 = 4 := by kernel_rfl
  have hc1 : Try.prog.cellsOf 2 = 1 := by kernel_rfl
  have hc2 : Try.prog.cellsOf 23 = 1 := by kernel_rfl
  rcases Go.Deep.open_slice Try.underlying22 hf with ⟨hcs, hx⟩ | ⟨a, len', cap', m, n, D, Pl, hcs, _, hl, hm, hmm, hx, hcell⟩
  · have e : (Value.slice a0 len cap) = .slice none 0 0 := by simpa [Value.cells] using hcs
    injection e with e1 e2 e3
    subst e1; subst e2; subst e3
    injection hx with hx
    exact ⟨none, 0, [], rfl, by simp, Row.nil_ _ _, by simp, by unfold maxLen; omega, fun s hs => (by simp at hs), .inl ⟨hx, rfl⟩⟩
  · have e : (Value.slice a0 len cap) = .slice (some a) len' cap' := by simpa [Value.cells] using hcs
    injection e with e1 e2 e3
    subst e1; subst e2; subst e3
    simp only [if_true] at hmm
    have each : ∀ i, i < len → ∃ x : Hd, (W.cell? (a.add (i * 4)) = some (.int .i64 x.1) ∧ W.cell? (a.add (i * 4 + 1)) = some (.int .u64 (x.2.1 : Int)) ∧ W.cell? (a.add (i * 4 + 2)) = some (.int .u64 (x.2.2.1 : Int)) ∧ W.cell? (a.add (i * 4 + 3)) = some (.int .i64 x.2.2.2)) ∧
        (-9223372036854775808 ≤ x.1 ∧ x.1 ≤ 9223372036854775807) ∧ x.2.1 < 18446744073709551616 ∧ x.2.2.1 < 18446744073709551616 ∧ (-9223372036854775808 ≤ x.2.2.2 ∧ x.2.2.2 ≤ 9223372036854775807) := by
      intro i hi
      obtain ⟨cs, g1, g2⟩ := hcell i (by omega)
      rw [hc] at g1
      obtain ⟨_, hlen, hcc⟩ := World.cells?_some g1
      obtain ⟨y0, y1, y2, y3, k, _, _, h0, h1, h2, h3⟩ := trod_struct4 Try.underlying25 g2
      match cs, hlen with
      | [c0, c1, c2, c3], _ =>
        simp [hc1, hc2] at h0 h1 h2 h3
        obtain ⟨x1, e1, _, l1⟩ := DataW.trod_int Try.underlying2 h0
        obtain ⟨x2, e2, _, l2⟩ := DataW.trod_int Try.underlying23 h1
        obtain ⟨x3, e3, _, l3⟩ := DataW.trod_int Try.underlying23 h2
        obtain ⟨x4, e4, _, l4⟩ := DataW.trod_int Try.underlying2 h3
        simp only [List.cons.injEq, and_true] at e1 e2 e3 e4
        subst e1; subst e2; subst e3; subst e4
        have b1 := bounds_i64 l1
        have b2 := bounds_u64 l2
        have b3 := bounds_u64 l3
        have b4 := bounds_i64 l4
        have z0 := hcc 0 (by omega)
        have z1 := hcc 1 (by omega)
        have z2 := hcc 2 (by omega)
        have z3 := hcc 3 (by omega)
        rw [Go.Deep.add_add] at z0 z1 z2 z3
        refine ⟨(x1, x2.toNat, x3.toNat, x4), ⟨by simpa using z0, ?_, ?_, by simpa using z3⟩, ⟨by dsimp only; omega, by dsimp only; omega⟩, by dsimp only; omega, by dsimp only; omega, ⟨by dsimp only; omega, by dsimp only; omega⟩⟩
        · dsimp only; rw [Int.toNat_of_nonneg b2.1]; simpa using z1
        · dsimp only; rw [Int.toNat_of_nonneg b3.1]; simpa using z2
    obtain ⟨q, hq⟩ := Go.Deep.choose_lt each
    have hlen : ((List.range len).map q).length = len := by simp
    refine ⟨some a, cap, (List.range len).map q, by rw [hlen], by rw [hlen]; omega, fun h0 => ?_, by rw [hlen]; exact hl, hm, ?_, ?_⟩
    · rw [hcells_length, hlen] at h0
      obtain ⟨b, off, spot⟩ := a
      have hspot : spot = none := by simpa [Addr.add] using World.cell?_spot (hq 0 (by omega)).1.1
      subst hspot
      refine ⟨b, off, rfl, fun k hk => ?_⟩
      rw [hcells_length, hlen] at hk
      have hi : k / 4 < len := by omega
      have hg := hcells_get ((List.range len).map q) (k / 4) (by rw [hlen]; exact hi)
      obtain ⟨⟨h1, h2, h3, h4⟩, _⟩ := hq (k / 4) hi
      rw [Go.WideShapes.add_plain] at h1 h2 h3 h4
      simp only [List.getElem_map, List.getElem_range] at hg
      rcases (by omega : k = k / 4 * 4 ∨ k = k / 4 * 4 + 1 ∨ k = k / 4 * 4 + 2 ∨ k = k / 4 * 4 + 3) with hk2 | hk2 | hk2 | hk2
      · obtain ⟨l1, e1⟩ := List.getElem?_eq_some_iff.1 hg.1
        have e3 : (hcells ((List.range len).map q))[k] = .int .i64 (q (k / 4)).1 := by rw [← e1]; congr 1
        rw [e3, ← h1]
        congr 2
        omega
      · obtain ⟨l1, e1⟩ := List.getElem?_eq_some_iff.1 hg.2.1
        have e3 : (hcells ((List.range len).map q))[k] = .int .u64 ((q (k / 4)).2.1 : Int) := by rw [← e1]; congr 1
        rw [e3, ← h2]
        congr 2
        omega
      · obtain ⟨l1, e1⟩ := List.getElem?_eq_some_iff.1 hg.2.2.1
        have e3 : (hcells ((List.range len).map q))[k] = .int .u64 ((q (k / 4)).2.2.1 : Int) := by rw [← e1]; congr 1
        rw [e3, ← h3]
        congr 2
        omega
      · obtain ⟨l1, e1⟩ := List.getElem?_eq_some_iff.1 hg.2.2.2
        have e3 : (hcells ((List.range len).map q))[k] = .int .i64 (q (k / 4)).2.2.2 := by rw [← e1]; congr 1
        rw [e3, ← h4]
        congr 2
        omega
    · intro x hx
      obtain ⟨i, hi, rfl⟩ := List.mem_map.1 hx
      exact (hq i (List.mem_range.1 hi)).2
    · injection hx with hx
      exact .inr ⟨_, _, hx, by simp⟩
theorem arg_heads (hok : Value.okWide Try.prog W .any base 22 v) (h : DataW.Trod enc Try.prog W 0 (fun _ => true) true 22 v d ps) :
    ∃ (A : Option Addr) (c : Nat) (l : List Hd), v = .slice A l.length c ∧ l.length ≤ maxLen ∧ Row W A (hcells l) ∧ l.length ≤ c ∧ c ≤ maxLen ∧ (∀ x ∈ l, (-9223372036854775808 ≤ x.1 ∧ x.1 ≤ 9223372036854775807) ∧ x.2.1 < 18446744073709551616 ∧ x.2.2.1 < 18446744073709551616 ∧ (-9223372036854775808 ≤ x.2.2.2 ∧ x.2.2.2 ≤ 9223372036854775807)) ∧
      (d = .nil ∧ l = [] ∨ ∃ el sp : List (DataW H), d = .slice el sp ∧ el.length = l.length) :=
  arg_heads_of (okWide_slice Try.underlying22 hok) h
end
end Go.Proofs.Ythkhafgcpmoalaa
