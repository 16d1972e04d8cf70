/- A head among a law's arguments: two times and two numbers; and a time. -/
import Derived.Test.YtjcockcilkiggaaGreatJ01
import Derived.ProofKit
import Derived.OpenShut
import Derived.ChangeSame
import Derived.Lib.SmallJoins
import Derived.Test.YtjcockcilkiggaaGreatJ09
import Derived.Deep.Slices
import Derived.Deep.SlicePairs
import Derived.Test.YtjcockcilkiggaaGreatJ06
import Derived.SizedLaws
import Derived.ChangeSlices
import Derived.Deep.Strs
namespace Go.Proofs.YtjcockcilkiggaaGreat
set_option maxRecDepth 100000
open Go.ChangeShapes Go.WideShapes Go.ChangeAt Go.RowKit Go.Joins

section
variable {H : Type} {enc : TypeId × Value → H} {W : World} {base : Nat} {v : Value} {d : DataW H} {ps : List MemPlace}

theorem arg_int64 (hok : Value.okWide Tryz.prog W .any base 2 v) (h : DataW.Trod enc Tryz.prog W 0 (fun _ => true) true 2 v d ps) : ∃ x : Int, v = .int .i64 x ∧ -9223372036854775808 ≤ x ∧ x ≤ 9223372036854775807 := by
  obtain ⟨x, rfl, _, _, wx⟩ := open_int Tryz.underlying2 hok h
  have := bounds_i64 wx
  exact ⟨x, rfl, by omega, by omega⟩
theorem arg_head (hok : Value.okWide Tryz.prog W .any base 45 v) (h : DataW.Trod enc Tryz.prog W 0 (fun _ => true) true 45 v d ps) :
    ∃ (ep : Int) (rt pv : Nat) (tm : Int), v = .agg #[.int .i64 ep, .int .u64 (rt : Int), .int .u64 (pv : Int), .int .i64 tm] ∧ (-9223372036854775808 ≤ ep ∧ ep ≤ 9223372036854775807) ∧ rt < 18446744073709551616 ∧ pv < 18446744073709551616 ∧ (-9223372036854775808 ≤ tm ∧ tm ≤ 9223372036854775807) := by
  obtain ⟨cs, rfl, hcs⟩ := okWide_struct Tryz.underlying45 hok
  have hc : Tryz.prog.cellsOf 45 = 4 := by kernel_rfl
  have hc1 : Tryz.prog.cellsOf 2 = 1 := by kernel_rfl
  have hc2 : Tryz.prog.cellsOf 29 = 1 := by kernel_rfl
  obtain ⟨fuel, hf⟩ := h
  obtain ⟨y0, y1, y2, y3, n, _, _, h0, h1, h2, h3⟩ := trod_struct4 Tryz.underlying45 hf
  rw [hc] at hcs
  obtain ⟨l⟩ := cs
  match l, hcs with
  | [c0, c1, c2, c3], _ =>
    simp [Value.cells, hc1, hc2] at h0 h1 h2 h3
    obtain ⟨x1, e1, _, l1⟩ := DataW.trod_int Tryz.underlying2 h0
    obtain ⟨x2, e2, _, l2⟩ := DataW.trod_int Tryz.underlying29 h1
    obtain ⟨x3, e3, _, l3⟩ := DataW.trod_int Tryz.underlying29 h2
    obtain ⟨x4, e4, _, l4⟩ := DataW.trod_int Tryz.underlying2 h3
    simp only [List.cons.injEq, and_true] at e1 e2 e3 e4
    subst e1; subst e2; subst e3; subst e4
    have b1 := bounds_i64 l1
    have b2 := bounds_u64 l2
    have b3 := bounds_u64 l3
    have b4 := bounds_i64 l4
    exact ⟨x1, x2.toNat, x3.toNat, x4, by rw [Int.toNat_of_nonneg b2.1, Int.toNat_of_nonneg b3.1], ⟨by omega, by omega⟩, by omega, by omega, ⟨by omega, by omega⟩⟩
end
end Go.Proofs.YtjcockcilkiggaaGreat
/- A list of heads among a law's arguments, in a row of cells. -/
namespace Go.Proofs.YtjcockcilkiggaaGreat
set_option maxRecDepth 100000
open Go.ChangeShapes Go.WideShapes Go.ChangeAt Go.RowKit Go.Joins

section
variable {H : Type} {enc : TypeId × Value → H} {W : World} {base : Nat} {v : Value} {d : DataW H} {ps : List MemPlace}

theorem arg_heads_of (hv : ∃ a len cap, v = .slice a len cap) (h : DataW.Trod enc Tryz.prog W 0 (fun _ => true) true 25 v d ps) :
    ∃ (A : Option Addr) (c : Nat) (l : List Hd), v = .slice A l.length c ∧ l.length ≤ maxLen ∧ Row W A (hcells l) ∧ l.length ≤ c ∧ c ≤ maxLen ∧ (∀ x ∈ l, (-9223372036854775808 ≤ x.1 ∧ x.1 ≤ 9223372036854775807) ∧ x.2.1 < 18446744073709551616 ∧ x.2.2.1 < 18446744073709551616 ∧ (-9223372036854775808 ≤ x.2.2.2 ∧ x.2.2.2 ≤ 9223372036854775807)) ∧
      (d = .nil ∧ l = [] ∨ ∃ el sp : List (DataW H), d = .slice el sp ∧ el.length = l.length) := by
  obtain ⟨a0, len, cap, rfl⟩ := hv
  obtain ⟨fuel, hf⟩ := h
  have hc : Tryz.prog.cellsOf 45 = 4 := by kernel_rfl
  have hc1 : Tryz.prog.cellsOf 2 = 1 := by kernel_rfl
  have hc2 : Tryz.prog.cellsOf 29 = 1 := by kernel_rfl
  rcases Go.Deep.open_slice Tryz.underlying25 hf with ⟨hcs, hx⟩ | ⟨a, len', cap', m, n, D, Pl, hcs, _, hl, hm, hmm, hx, hcell⟩
  · have e : (Value.slice a0 len cap) = .slice none 0 0 := by simpa [Value.cells] using hcs
    injection e with e1 e2 e3
    subst e1; subst e2; subst e3
    injection hx with hx
    exact ⟨none, 0, [], rfl, by simp, Row.nil_ _ _, by simp, by unfold maxLen; omega, fun s hs => (by simp at hs), .inl ⟨hx, rfl⟩⟩
  · have e : (Value.slice a0 len cap) = .slice (some a) len' cap' := by simpa [Value.cells] using hcs
    injection e with e1 e2 e3
    subst e1; subst e2; subst e3
    simp only [if_true] at hmm
    have each : ∀ i, i < len → ∃ x : Hd, (W.cell? (a.add (i * 4)) = some (.int .i64 x.1) ∧ W.cell? (a.add (i * 4 + 1)) = some (.int .u64 (x.2.1 : Int)) ∧ W.cell? (a.add (i * 4 + 2)) = some (.int .u64 (x.2.2.1 : Int)) ∧ W.cell? (a.add (i * 4 + 3)) = some (.int .i64 x.2.2.2)) ∧
        (-9223372036854775808 ≤ x.1 ∧ x.1 ≤ 9223372036854775807) ∧ x.2.1 < 18446744073709551616 ∧ x.2.2.1 < 18446744073709551616 ∧ (-9223372036854775808 ≤ x.2.2.2 ∧ x.2.2.2 ≤ 9223372036854775807) := by
      intro i hi
      obtain ⟨cs, g1, g2⟩ := hcell i (by omega)
      rw [hc] at g1
      obtain ⟨_, hlen, hcc⟩ := World.cells?_some g1
      obtain ⟨y0, y1, y2, y3, k, _, _, h0, h1, h2, h3⟩ := trod_struct4 Tryz.underlying45 g2
      match cs, hlen with
      | [c0, c1, c2, c3], _ =>
        simp [hc1, hc2] at h0 h1 h2 h3
        obtain ⟨x1, e1, _, l1⟩ := DataW.trod_int Tryz.underlying2 h0
        obtain ⟨x2, e2, _, l2⟩ := DataW.trod_int Tryz.underlying29 h1
        obtain ⟨x3, e3, _, l3⟩ := DataW.trod_int Tryz.underlying29 h2
        obtain ⟨x4, e4, _, l4⟩ := DataW.trod_int Tryz.underlying2 h3
        simp only [List.cons.injEq, and_true] at e1 e2 e3 e4
        subst e1; subst e2; subst e3; subst e4
        have b1 := bounds_i64 l1
        have b2 := bounds_u64 l2
        have b3 := bounds_u64 l3
        have b4 := bounds_i64 l4
        have z0 := hcc 0 (by omega)
        have z1 := hcc 1 (by omega)
        have z2 := hcc 2 (by omega)
        have z3 := hcc 3 (by omega)
        rw [Go.Deep.add_add] at z0 z1 z2 z3
        refine ⟨(x1, x2.toNat, x3.toNat, x4), ⟨by simpa using z0, ?_, ?_, by simpa using z3⟩, ⟨by dsimp only; omega, by dsimp only; omega⟩, by dsimp only; omega, by dsimp only; omega, ⟨by dsimp only; omega, by dsimp only; omega⟩⟩
        · dsimp only; rw [Int.toNat_of_nonneg b2.1]; simpa using z1
        · dsimp only; rw [Int.toNat_of_nonneg b3.1]; simpa using z2
    obtain ⟨q, hq⟩ := Go.Deep.choose_lt each
    have hlen : ((List.range len).map q).length = len := by simp
    refine ⟨some a, cap, (List.range len).map q, by rw [hlen], by rw [hlen]; omega, fun h0 => ?_, by rw [hlen]; exact hl, hm, ?_, ?_⟩
    · rw [hcells_length, hlen] at h0
      obtain ⟨b, off, spot⟩ := a
      have hspot : spot = none := by simpa [Addr.add] using World.cell?_spot (hq 0 (by omega)).1.1
      subst hspot
      refine ⟨b, off, rfl, fun k hk => ?_⟩
      rw [hcells_length, hlen] at hk
      have hi : k / 4 < len := by omega
      have hg := hcells_get ((List.range len).map q) (k / 4) (by rw [hlen]; exact hi)
      obtain ⟨⟨h1, h2, h3, h4⟩, _⟩ := hq (k / 4) hi
      rw [Go.WideShapes.add_plain] at h1 h2 h3 h4
      simp only [List.getElem_map, List.getElem_range] at hg
      rcases (by omega : k = k / 4 * 4 ∨ k = k / 4 * 4 + 1 ∨ k = k / 4 * 4 + 2 ∨ k = k / 4 * 4 + 3) with hk2 | hk2 | hk2 | hk2
      · obtain ⟨l1, e1⟩ := List.getElem?_eq_some_iff.1 hg.1
        have e3 : (hcells ((List.range len).map q))[k] = .int .i64 (q (k / 4)).1 := by rw [← e1]; congr 1
        rw [e3, ← h1]
        congr 2
        omega
      · obtain ⟨l1, e1⟩ := List.getElem?_eq_some_iff.1 hg.2.1
        have e3 : (hcells ((List.range len).map q))[k] = .int .u64 ((q (k / 4)).2.1 : Int) := by rw [← e1]; congr 1
        rw [e3, ← h2]
        congr 2
        omega
      · obtain ⟨l1, e1⟩ := List.getElem?_eq_some_iff.1 hg.2.2.1
        have e3 : (hcells ((List.range len).map q))[k] = .int .u64 ((q (k / 4)).2.2.1 : Int) := by rw [← e1]; congr 1
        rw [e3, ← h3]
        congr 2
        omega
      · obtain ⟨l1, e1⟩ := List.getElem?_eq_some_iff.1 hg.2.2.2
        have e3 : (hcells ((List.range len).map q))[k] = .int .i64 (q (k / 4)).2.2.2 := by rw [← e1]; congr 1
        rw [e3, ← h4]
        congr 2
        omega
    · intro x hx
      obtain ⟨i, hi, rfl⟩ := List.mem_map.1 hx
      exact (hq i (List.mem_range.1 hi)).2
    · injection hx with hx
      exact .inr ⟨_, _, hx, by simp⟩
theorem arg_heads (hok : Value.okWide Tryz.prog W .any base 25 v) (h : DataW.Trod enc Tryz.prog W 0 (fun _ => true) true 25 v d ps) :
    ∃ (A : Option Addr) (c : Nat) (l : List Hd), v = .slice A l.length c ∧ l.length ≤ maxLen ∧ Row W A (hcells l) ∧ l.length ≤ c ∧ c ≤ maxLen ∧ (∀ x ∈ l, (-9223372036854775808 ≤ x.1 ∧ x.1 ≤ 9223372036854775807) ∧ x.2.1 < 18446744073709551616 ∧ x.2.2.1 < 18446744073709551616 ∧ (-9223372036854775808 ≤ x.2.2.2 ∧ x.2.2.2 ≤ 9223372036854775807)) ∧
      (d = .nil ∧ l = [] ∨ ∃ el sp : List (DataW H), d = .slice el sp ∧ el.length = l.length) :=
  arg_heads_of (okWide_slice Tryz.underlying25 hok) h
end
end Go.Proofs.YtjcockcilkiggaaGreat
/- A list of entries among a law's arguments: a list of names and values, in a row of cells. -/
namespace Go.Proofs.YtjcockcilkiggaaGreat
set_option maxRecDepth 100000
open Go.ChangeShapes Go.WideShapes Go.ChangeAt Go.RowKit

section
variable {H : Type} {enc : TypeId × Value → H} {W : World} {base : Nat} {v : Value} {d : DataW H} {ps : List MemPlace}

def strOf : Value → Bytes | .string s => s.data.toList | _ => []

theorem arg_ents_of (hv : ∃ a len cap, v = .slice a len cap) (h : DataW.Trod enc Tryz.prog W 0 (fun _ => true) true 39 v d ps) :
    ∃ (A : Option Addr) (c : Nat) (es : List Ent), v = .slice A es.length c ∧ es.length ≤ maxLen ∧ Row W A (encells es) ∧ (∀ x ∈ es, x.1.length ≤ maxLen ∧ x.2.length ≤ maxLen) ∧ es.length ≤ c ∧
      (d = .nil ∧ es = [] ∨ ∃ el sp : List (DataW H), d = .slice el sp ∧ el.length = es.length) := by
  obtain ⟨a0, len, cap, rfl⟩ := hv
  obtain ⟨fuel, hf⟩ := h
  rcases Go.Deep.open_slice_pairs Tryz.underlying39 Tryz.underlying51 (by kernel_rfl) rfl rfl (by kernel_rfl) (by kernel_rfl) hf with ⟨hcs, hx⟩ | ⟨a, len', cap', m, n, V0, V1, D0, D1, P0, P1, hcs, _, hl, hm, hz, hx, hcell⟩
  · have e : (Value.slice a0 len cap) = .slice none 0 0 := by simpa [Value.cells] using hcs
    injection e with e1 e2 e3
    subst e1; subst e2; subst e3
    injection hx with hx
    exact ⟨none, 0, [], rfl, by simp, Row.nil_ _ _, fun s hs => (by simp at hs), Nat.le_refl _, .inl ⟨hx, rfl⟩⟩
  · have e : (Value.slice a0 len cap) = .slice (some a) len' cap' := by simpa [Value.cells] using hcs
    injection e with e1 e2 e3
    subst e1; subst e2; subst e3
    simp only [if_true] at hz
    have hs : ∀ i, i < len → V0 i = .string (S (strOf (V0 i))) ∧ (strOf (V0 i)).length ≤ maxLen ∧ V1 i = .string (S (strOf (V1 i))) ∧ (strOf (V1 i)).length ≤ maxLen := by
      intro i hi
      obtain ⟨_, _, h1, h2⟩ := hcell i (by omega)
      obtain ⟨s1, e1, _, l1⟩ := DataW.trod_string Tryz.underlying9 h1
      obtain ⟨s2, e2, _, l2⟩ := DataW.trod_string Tryz.underlying9 h2
      simp only [List.cons.injEq, and_true] at e1 e2
      rw [e1, e2]
      refine ⟨by rw [strOf, ← S_of], ?_, by rw [strOf, ← S_of], ?_⟩
      · show s1.data.toList.length ≤ maxLen
        rw [Array.length_toList]
        exact l1
      · show s2.data.toList.length ≤ maxLen
        rw [Array.length_toList]
        exact l2
    have hlen : ((List.range len).map fun i => ((strOf (V0 i), strOf (V1 i)) : Ent)).length = len := by simp
    refine ⟨some a, cap, (List.range len).map fun i => (strOf (V0 i), strOf (V1 i)), by rw [hlen], by rw [hlen]; omega, fun h0 => ?_, ?_, by rw [hlen]; exact hl, ?_⟩
    · rw [encells_length, hlen] at h0
      obtain ⟨b, off, spot⟩ := a
      have hspot : spot = none := by simpa [Addr.add] using World.cell?_spot (hcell 0 (by omega)).1
      subst hspot
      refine ⟨b, off, rfl, fun k hk => ?_⟩
      rw [encells_length, hlen] at hk
      have hi : k / 2 < len := by omega
      have hg := encells_get ((List.range len).map fun i => ((strOf (V0 i), strOf (V1 i)) : Ent)) (k / 2) (by rw [hlen]; exact hi)
      obtain ⟨h1, h2, _, _⟩ := hcell (k / 2) (by omega)
      obtain ⟨s1, _, s2, _⟩ := hs (k / 2) hi
      rw [Go.WideShapes.add_plain] at h1 h2
      simp only [List.getElem_map, List.getElem_range] at hg
      rcases (by omega : k = k / 2 * 2 ∨ k = k / 2 * 2 + 1) with hk2 | hk2
      · obtain ⟨l1, e1⟩ := List.getElem?_eq_some_iff.1 hg.1
        have e3 : (encells ((List.range len).map fun i => ((strOf (V0 i), strOf (V1 i)) : Ent)))[k] = .string (S (strOf (V0 (k / 2)))) := by
          rw [← e1]
          congr 1
        rw [e3, ← s1, ← h1]
        congr 2
        omega
      · obtain ⟨l1, e1⟩ := List.getElem?_eq_some_iff.1 hg.2
        have e3 : (encells ((List.range len).map fun i => ((strOf (V0 i), strOf (V1 i)) : Ent)))[k] = .string (S (strOf (V1 (k / 2)))) := by
          rw [← e1]
          congr 1
        rw [e3, ← s2, ← h2]
        congr 2
        omega
    · intro x hx
      obtain ⟨i, hi, rfl⟩ := List.mem_map.1 hx
      have := hs i (List.mem_range.1 hi)
      exact ⟨this.2.1, this.2.2.2⟩
    · injection hx with hx
      exact .inr ⟨_, _, hx, by simp⟩
theorem arg_ents (hok : Value.okWide Tryz.prog W .any base 39 v) (h : DataW.Trod enc Tryz.prog W 0 (fun _ => true) true 39 v d ps) :
    ∃ (A : Option Addr) (c : Nat) (es : List Ent), v = .slice A es.length c ∧ es.length ≤ maxLen ∧ Row W A (encells es) ∧ (∀ x ∈ es, x.1.length ≤ maxLen ∧ x.2.length ≤ maxLen) ∧ es.length ≤ c ∧
      (d = .nil ∧ es = [] ∨ ∃ el sp : List (DataW H), d = .slice el sp ∧ el.length = es.length) :=
  arg_ents_of (okWide_slice Tryz.underlying39 hok) h
/-- .. within the form's own reach. -/
theorem arg_ents_sized {ts : List TypeId} {ds : List (DataW H)} {j : Nat} (hsz : (DataW.weightsEach Tryz.prog ts ds).all (· ≤ reachBytes) = true) (ht : ts[j]? = some 39) (hd : ds[j]? = some d)
    (hok : Value.okWide Tryz.prog W .any base 39 v) (h : DataW.Trod enc Tryz.prog W 0 (fun _ => true) true 39 v d ps) :
    ∃ (A : Option Addr) (c : Nat) (es : List Ent), v = .slice A es.length c ∧ es.length * 32 ≤ 140737488351232 ∧ Row W A (encells es) ∧ (∀ x ∈ es, x.1.length ≤ maxLen ∧ x.2.length ≤ maxLen) ∧ es.length ≤ c := by
  obtain ⟨A, c, es, rfl, hm, hr, hs, hcc, hdd⟩ := arg_ents hok h
  refine ⟨A, c, es, rfl, ?_, hr, hs, hcc⟩
  rcases hdd with ⟨_, rfl⟩ | ⟨el, sp, rfl, he⟩
  · simp
  · have := sized_slice hsz ht hd Tryz.underlying39
    have hb : Tryz.prog.bytesOf 51 = 32 := by kernel_rfl
    have hR : reachBytes = 140737488351232 := by kernel_rfl
    rw [hb, hR] at this
    omega
/-- One entry among the arguments. -/
theorem arg_ent (hok : Value.okWide Tryz.prog W .any base 51 v) (h : DataW.Trod enc Tryz.prog W 0 (fun _ => true) true 51 v d ps) :
    ∃ a b : Bytes, v = .agg #[.string (S a), .string (S b)] ∧ a.length ≤ maxLen ∧ b.length ≤ maxLen := by
  obtain ⟨cs, rfl, hcs⟩ := okWide_struct Tryz.underlying51 hok
  have hc : Tryz.prog.cellsOf 51 = 2 := by kernel_rfl
  have hc1 : Tryz.prog.cellsOf 9 = 1 := by kernel_rfl
  obtain ⟨fuel, hf⟩ := h
  obtain ⟨y0, y1, n, _, _, h0, h1⟩ := trod_struct2 Tryz.underlying51 hf
  rw [hc] at hcs
  obtain ⟨l⟩ := cs
  match l, hcs with
  | [c0, c1], _ =>
    simp [Value.cells, hc1] at h0 h1
    obtain ⟨s1, e1, _, l1⟩ := DataW.trod_string Tryz.underlying9 h0
    obtain ⟨s2, e2, _, l2⟩ := DataW.trod_string Tryz.underlying9 h1
    simp only [List.cons.injEq, and_true] at e1 e2
    subst e1; subst e2
    refine ⟨s1.data.toList, s2.data.toList, by rw [← S_of, ← S_of], ?_, ?_⟩
    · rw [Array.length_toList]; exact l1
    · rw [Array.length_toList]; exact l2
end
end Go.Proofs.YtjcockcilkiggaaGreat
/- A proof among a law's arguments: a name, a list of entries and a list of hashes, in rows of cells. -/
namespace Go.Proofs.YtjcockcilkiggaaGreat
set_option maxRecDepth 100000
open Go.ChangeShapes Go.WideShapes Go.ChangeAt Go.RowKit

section
variable {H : Type} {enc : TypeId × Value → H} {W : World} {base : Nat} {v : Value} {d : DataW H} {ps : List MemPlace}

end
end Go.Proofs.YtjcockcilkiggaaGreat
