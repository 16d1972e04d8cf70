/- The check that package clerk is there; a clerk in a variable. -/
import Derived.Test.YtjcockcilkiggaaJ37
import Derived.Test.YtjcockcilkiggaaJ38
import Derived.Test.YtjcockcilkiggaaJ02
import Derived.ProofKit
import Derived.OpenShut
import Derived.ChangeSame
import Derived.SizedLaws
import Derived.ChangeSlices
import Derived.Lib.SmallJoins
import Derived.Deep.Slices
import Derived.Deep.SlicePairs
import Derived.Test.YtjcockcilkiggaaJ01
import Derived.Test.YtjcockcilkiggaaJ07
namespace Go.Proofs.Ytjcockcilkiggaa
set_option maxRecDepth 100000
open Go.RowKit

set_option maxHeartbeats 2000000 in
theorem clerks (w : World) : Calls Try.prog 6 #[] w fun e w' => e = .returned (.bool true) ∧ Below w.heap.size w w' := by
  have hN := fun (w : World) => Lib.hid (clerkNew_ok 1 1 1 w (by rw [new_fault, if_neg (by omega)]))
  go_enter Try.func6, Try.ntmps6
  go_wp2_with fail
  refine (hN _).out.mono ?_
  rintro xx w1 ⟨E, F, rfl, -, -, hb1⟩
  have hb2 := balloc hb1 (.cells #[.int .i64 1, .slice none 0 0, .int .i64 1, .int .i64 1, .int .i64 0, .slice E 1 1, .slice F 1 1] 28)
  have x2 := Bx.new w1 _ rfl _ [.int .i64 1, .slice none 0 0, .int .i64 1, .int .i64 1, .int .i64 0, .slice E 1 1, .slice F 1 1] 28 rfl
  obtain ⟨a0, a1, a2, a3, a4, a5, a6⟩ := x2.get7
  go_wp2
  go_ret
  exact ⟨rfl, hb2⟩
/-- A clerk that is right in the variable at block g; k0: what stood there once. -/
structure ClSt (k0 : Ck) (g : Nat) (W : World) (k : Ck) (A I B : Option Addr) (c d e : Nat) (qs : List Bp) : Prop where
  good : CkGood k
  ext : CkExt k0 k
  bk : bks qs = k.books
  ra : Row W A (qcells k.wait)
  ri : Row W I (hcells k.heads)
  rb : Books W B qs
  cap : k.heads.length ≤ d
  bx : Bx W g [.int .i64 k.most, .slice A k.wait.length c, .int .i64 k.batch, .int .i64 k.every, .int .i64 k.now, .slice I k.heads.length d, .slice B qs.length e]
theorem ClSt.below {k0 k : Ck} {g : Nat} {W W' : World} {A I B : Option Addr} {c d e : Nat} {qs : List Bp} (h : ClSt k0 g W k A I B c d e qs) (hb : Below W.heap.size W W') : ClSt k0 g W' k A I B c d e qs :=
  ⟨h.good, h.ext, h.bk, h.ra.below hb, h.ri.below hb, h.rb.below hb, h.cap, h.bx.below hb⟩
theorem ClSt.of {k0 k : Ck} {g b : Nat} {W : World} {A I B : Option Addr} {c d e : Nat} {qs : List Bp} (hg : CkGood k) (he : CkExt k0 k) (hq : bks qs = k.books) (hO : OwnCk W b k.wait k.heads A I B c d e qs)
    (hx : Bx W g [.int .i64 k.most, .slice A k.wait.length c, .int .i64 k.batch, .int .i64 k.every, .int .i64 k.now, .slice I k.heads.length d, .slice B qs.length e]) : ClSt k0 g W k A I B c d e qs :=
  ⟨hg, he, hq, Row.ownN hO.q, Row.ownN hO.hd, hO.books, own_capE hO.hd, hx⟩
theorem ClSt.small {k0 k : Ck} {g : Nat} {W : World} {A I B : Option Addr} {c d e : Nat} {qs : List Bp} (h : ClSt k0 g W k A I B c d e qs) : CkSmall k.wait k.heads qs := ck_small h.good qs h.bk
end Go.Proofs.Ytjcockcilkiggaa
/- A list of requests, and a queue, among a law's arguments, in a row of cells. -/
namespace Go.Proofs.Ytjcockcilkiggaa
set_option maxRecDepth 100000
open Go.ChangeShapes Go.WideShapes Go.ChangeAt Go.RowKit Go.Joins

section
variable {H : Type} {enc : TypeId × Value → H} {W : World} {base : Nat} {v : Value} {d : DataW H} {ps : List MemPlace}

theorem arg_asks_of (hv : ∃ a len cap, v = .slice a len cap) (h : DataW.Trod enc Try.prog W 0 (fun _ => true) true 22 v d ps) :
    ∃ (A : Option Addr) (c : Nat) (l : List Ak), v = .slice A l.length c ∧ l.length ≤ maxLen ∧ Row W A (qcells l) ∧ l.length ≤ c ∧ c ≤ maxLen ∧ (∀ x ∈ l, (x.1.length ≤ maxLen ∧ x.2.1.length ≤ maxLen) ∧ x.2.2.1 < 18446744073709551616 ∧ x.2.2.2 < 18446744073709551616) ∧
      (d = .nil ∧ l = [] ∨ ∃ el sp : List (DataW H), d = .slice el sp ∧ el.length = l.length) := by
  obtain ⟨a0, len, cap, rfl⟩ := hv
  obtain ⟨fuel, hf⟩ := h
  have hc : Try.prog.cellsOf 35 = 4 := by kernel_rfl
  have hc1 : Try.prog.cellsOf 9 = 1 := by kernel_rfl
  have hc2 : Try.prog.cellsOf 33 = 1 := by kernel_rfl
  rcases Go.Deep.open_slice Try.underlying22 hf with ⟨hcs, hx⟩ | ⟨a, len', cap', m, n, D, Pl, hcs, _, hl, hm, hmm, hx, hcell⟩
  · have e : (Value.slice a0 len cap) = .slice none 0 0 := by simpa [Value.cells] using hcs
    injection e with e1 e2 e3
    subst e1; subst e2; subst e3
    injection hx with hx
    exact ⟨none, 0, [], rfl, by simp, Row.nil_ _ _, by simp, by unfold maxLen; omega, fun s hs => (by simp at hs), .inl ⟨hx, rfl⟩⟩
  · have e : (Value.slice a0 len cap) = .slice (some a) len' cap' := by simpa [Value.cells] using hcs
    injection e with e1 e2 e3
    subst e1; subst e2; subst e3
    simp only [if_true] at hmm
    have each : ∀ i, i < len → ∃ x : Ak, (W.cell? (a.add (i * 4)) = some (.string (S x.1)) ∧ W.cell? (a.add (i * 4 + 1)) = some (.string (S x.2.1)) ∧ W.cell? (a.add (i * 4 + 2)) = some (.int .u64 (x.2.2.1 : Int)) ∧ W.cell? (a.add (i * 4 + 3)) = some (.int .u64 (x.2.2.2 : Int))) ∧
        (x.1.length ≤ maxLen ∧ x.2.1.length ≤ maxLen) ∧ x.2.2.1 < 18446744073709551616 ∧ x.2.2.2 < 18446744073709551616 := by
      intro i hi
      obtain ⟨cs, g1, g2⟩ := hcell i (by omega)
      rw [hc] at g1
      obtain ⟨_, hlen, hcc⟩ := World.cells?_some g1
      obtain ⟨y0, y1, y2, y3, k, _, _, h0, h1, h2, h3⟩ := trod_struct4 Try.underlying35 g2
      match cs, hlen with
      | [c0, c1, c2, c3], _ =>
        simp [hc1, hc2] at h0 h1 h2 h3
        obtain ⟨x1, e1, _, l1⟩ := DataW.trod_string Try.underlying9 h0
        obtain ⟨x2, e2, _, l2⟩ := DataW.trod_string Try.underlying9 h1
        obtain ⟨x3, e3, _, l3⟩ := DataW.trod_int Try.underlying33 h2
        obtain ⟨x4, e4, _, l4⟩ := DataW.trod_int Try.underlying33 h3
        simp only [List.cons.injEq, and_true] at e1 e2 e3 e4
        subst e1; subst e2; subst e3; subst e4
        have b3 := bounds_u64 l3
        have b4 := bounds_u64 l4
        have z0 := hcc 0 (by omega)
        have z1 := hcc 1 (by omega)
        have z2 := hcc 2 (by omega)
        have z3 := hcc 3 (by omega)
        rw [Go.Deep.add_add] at z0 z1 z2 z3
        refine ⟨(x1.data.toList, x2.data.toList, x3.toNat, x4.toNat), ⟨?_, ?_, ?_, ?_⟩, ⟨by dsimp only; rw [Array.length_toList]; exact l1, by dsimp only; rw [Array.length_toList]; exact l2⟩, by dsimp only; omega, by dsimp only; omega⟩
        · dsimp only; rw [← S_of]; simpa using z0
        · dsimp only; rw [← S_of]; simpa using z1
        · dsimp only; rw [Int.toNat_of_nonneg b3.1]; simpa using z2
        · dsimp only; rw [Int.toNat_of_nonneg b4.1]; simpa using z3
    obtain ⟨q, hq⟩ := Go.Deep.choose_lt each
    have hlen : ((List.range len).map q).length = len := by simp
    refine ⟨some a, cap, (List.range len).map q, by rw [hlen], by rw [hlen]; omega, fun h0 => ?_, by rw [hlen]; exact hl, hm, ?_, ?_⟩
    · rw [qcells_length, hlen] at h0
      obtain ⟨b, off, spot⟩ := a
      have hspot : spot = none := by simpa [Addr.add] using World.cell?_spot (hq 0 (by omega)).1.1
      subst hspot
      refine ⟨b, off, rfl, fun k hk => ?_⟩
      rw [qcells_length, hlen] at hk
      have hi : k / 4 < len := by omega
      have hg := qcells_get ((List.range len).map q) (k / 4) (by rw [hlen]; exact hi)
      obtain ⟨⟨h1, h2, h3, h4⟩, _⟩ := hq (k / 4) hi
      rw [Go.WideShapes.add_plain] at h1 h2 h3 h4
      simp only [List.getElem_map, List.getElem_range] at hg
      rcases (by omega : k = k / 4 * 4 ∨ k = k / 4 * 4 + 1 ∨ k = k / 4 * 4 + 2 ∨ k = k / 4 * 4 + 3) with hk2 | hk2 | hk2 | hk2
      · obtain ⟨l1, e1⟩ := List.getElem?_eq_some_iff.1 hg.1
        have e3 : (qcells ((List.range len).map q))[k] = .string (S (q (k / 4)).1) := by rw [← e1]; congr 1
        rw [e3, ← h1]
        congr 2
        omega
      · obtain ⟨l1, e1⟩ := List.getElem?_eq_some_iff.1 hg.2.1
        have e3 : (qcells ((List.range len).map q))[k] = .string (S (q (k / 4)).2.1) := by rw [← e1]; congr 1
        rw [e3, ← h2]
        congr 2
        omega
      · obtain ⟨l1, e1⟩ := List.getElem?_eq_some_iff.1 hg.2.2.1
        have e3 : (qcells ((List.range len).map q))[k] = .int .u64 ((q (k / 4)).2.2.1 : Int) := by rw [← e1]; congr 1
        rw [e3, ← h3]
        congr 2
        omega
      · obtain ⟨l1, e1⟩ := List.getElem?_eq_some_iff.1 hg.2.2.2
        have e3 : (qcells ((List.range len).map q))[k] = .int .u64 ((q (k / 4)).2.2.2 : Int) := by rw [← e1]; congr 1
        rw [e3, ← h4]
        congr 2
        omega
    · intro x hx
      obtain ⟨i, hi, rfl⟩ := List.mem_map.1 hx
      exact (hq i (List.mem_range.1 hi)).2
    · injection hx with hx
      exact .inr ⟨_, _, hx, by simp⟩
theorem arg_asks (hok : Value.okWide Try.prog W .any base 22 v) (h : DataW.Trod enc Try.prog W 0 (fun _ => true) true 22 v d ps) :
    ∃ (A : Option Addr) (c : Nat) (l : List Ak), v = .slice A l.length c ∧ l.length ≤ maxLen ∧ Row W A (qcells l) ∧ l.length ≤ c ∧ c ≤ maxLen ∧ (∀ x ∈ l, (x.1.length ≤ maxLen ∧ x.2.1.length ≤ maxLen) ∧ x.2.2.1 < 18446744073709551616 ∧ x.2.2.2 < 18446744073709551616) ∧
      (d = .nil ∧ l = [] ∨ ∃ el sp : List (DataW H), d = .slice el sp ∧ el.length = l.length) :=
  arg_asks_of (okWide_slice Try.underlying22 hok) h
/-- A queue among the arguments. -/
theorem arg_queue (hok : Value.okWide Try.prog W .any base 24 v) (h : DataW.Trod enc Try.prog W 0 (fun _ => true) true 24 v d ps) :
    ∃ (m : Int) (A : Option Addr) (c : Nat) (l : List Ak), v = .agg #[.int .i64 m, .slice A l.length c] ∧ (-9223372036854775808 ≤ m ∧ m ≤ 9223372036854775807) ∧ l.length ≤ maxLen ∧ Row W A (qcells l) ∧ l.length ≤ c ∧ c ≤ maxLen ∧ (∀ x ∈ l, (x.1.length ≤ maxLen ∧ x.2.1.length ≤ maxLen) ∧ x.2.2.1 < 18446744073709551616 ∧ x.2.2.2 < 18446744073709551616) := by
  obtain ⟨cs, rfl, hcs⟩ := okWide_struct Try.underlying24 hok
  have hc : Try.prog.cellsOf 24 = 2 := by kernel_rfl
  have hc1 : Try.prog.cellsOf 3 = 1 := by kernel_rfl
  have hc2 : Try.prog.cellsOf 22 = 1 := by kernel_rfl
  obtain ⟨fuel, hf⟩ := h
  obtain ⟨y0, y1, k, _, _, h0, h1⟩ := trod_struct2 Try.underlying24 hf
  rw [hc] at hcs
  obtain ⟨l⟩ := cs
  match l, hcs with
  | [c0, c1], _ =>
    simp [Value.cells, hc1, hc2] at h0 h1
    obtain ⟨x, e1, _, l1⟩ := DataW.trod_int Try.underlying3 h0
    simp only [List.cons.injEq, and_true] at e1
    subst e1
    have b := bounds_i64 l1
    have v1 : ∃ a len cap, c1 = .slice a len cap := by
      rcases Go.Deep.open_slice Try.underlying22 h1 with ⟨e, _⟩ | ⟨a, len, cap, _, _, _, _, e, _⟩
      · exact ⟨none, 0, 0, by simpa using e⟩
      · exact ⟨some a, len, cap, by simpa using e⟩
    obtain ⟨A, c, l, rfl, q1, q2, q3, q4, q5, _⟩ := arg_asks_of v1 (⟨k, by obtain ⟨a, b, c, rfl⟩ := v1; simpa [Value.cells] using h1⟩ : DataW.Trod enc Try.prog W 0 (fun _ => true) true 22 c1 y1.1 y1.2)
    exact ⟨x, A, c, l, rfl, ⟨by omega, by omega⟩, q1, q2, q3, q4, q5⟩
end
end Go.Proofs.Ytjcockcilkiggaa
/- A head among a law's arguments: two times and two numbers; and a time. -/
namespace Go.Proofs.Ytjcockcilkiggaa
set_option maxRecDepth 100000
open Go.ChangeShapes Go.WideShapes Go.ChangeAt Go.RowKit Go.Joins

section
variable {H : Type} {enc : TypeId × Value → H} {W : World} {base : Nat} {v : Value} {d : DataW H} {ps : List MemPlace}

theorem arg_int64 (hok : Value.okWide Try.prog W .any base 2 v) (h : DataW.Trod enc Try.prog W 0 (fun _ => true) true 2 v d ps) : ∃ x : Int, v = .int .i64 x ∧ -9223372036854775808 ≤ x ∧ x ≤ 9223372036854775807 := by
  obtain ⟨x, rfl, _, _, wx⟩ := open_int Try.underlying2 hok h
  have := bounds_i64 wx
  exact ⟨x, rfl, by omega, by omega⟩
theorem arg_head (hok : Value.okWide Try.prog W .any base 42 v) (h : DataW.Trod enc Try.prog W 0 (fun _ => true) true 42 v d ps) :
    ∃ (ep : Int) (rt pv : Nat) (tm : Int), v = .agg #[.int .i64 ep, .int .u64 (rt : Int), .int .u64 (pv : Int), .int .i64 tm] ∧ (-9223372036854775808 ≤ ep ∧ ep ≤ 9223372036854775807) ∧ rt < 18446744073709551616 ∧ pv < 18446744073709551616 ∧ (-9223372036854775808 ≤ tm ∧ tm ≤ 9223372036854775807) := by
  obtain ⟨cs, rfl, hcs⟩ := okWide_struct Try.underlying42 hok
  have hc : Try.prog.cellsOf 42 = 4 := by kernel_rfl
  have hc1 : Try.prog.cellsOf 2 = 1 := by kernel_rfl
  have hc2 : Try.prog.cellsOf 33 = 1 := by kernel_rfl
  obtain ⟨fuel, hf⟩ := h
  obtain ⟨y0, y1, y2, y3, n, _, _, h0, h1, h2, h3⟩ := trod_struct4 Try.underlying42 hf
  rw [hc] at hcs
  obtain ⟨l⟩ := cs
  match l, hcs with
  | [c0, c1, c2, c3], _ =>
    simp [Value.cells, hc1, hc2] at h0 h1 h2 h3
    obtain ⟨x1, e1, _, l1⟩ := DataW.trod_int Try.underlying2 h0
    obtain ⟨x2, e2, _, l2⟩ := DataW.trod_int Try.underlying33 h1
    obtain ⟨x3, e3, _, l3⟩ := DataW.trod_int Try.underlying33 h2
    obtain ⟨x4, e4, _, l4⟩ := DataW.trod_int Try.underlying2 h3
    simp only [List.cons.injEq, and_true] at e1 e2 e3 e4
    subst e1; subst e2; subst e3; subst e4
    have b1 := bounds_i64 l1
    have b2 := bounds_u64 l2
    have b3 := bounds_u64 l3
    have b4 := bounds_i64 l4
    exact ⟨x1, x2.toNat, x3.toNat, x4, by rw [Int.toNat_of_nonneg b2.1, Int.toNat_of_nonneg b3.1], ⟨by omega, by omega⟩, by omega, by omega, ⟨by omega, by omega⟩⟩
end
end Go.Proofs.Ytjcockcilkiggaa
/- A list of heads among a law's arguments, in a row of cells. -/
namespace Go.Proofs.Ytjcockcilkiggaa
set_option maxRecDepth 100000
open Go.ChangeShapes Go.WideShapes Go.ChangeAt Go.RowKit Go.Joins

section
variable {H : Type} {enc : TypeId × Value → H} {W : World} {base : Nat} {v : Value} {d : DataW H} {ps : List MemPlace}

theorem arg_heads_of (hv : ∃ a len cap, v = .slice a len cap) (h : DataW.Trod enc Try.prog W 0 (fun _ => true) true 25 v d ps) :
    ∃ (A : Option Addr) (c : Nat) (l : List Hd), v = .slice A l.length c ∧ l.length ≤ maxLen ∧ Row W A (hcells l) ∧ l.length ≤ c ∧ c ≤ maxLen ∧ (∀ x ∈ l, (-9223372036854775808 ≤ x.1 ∧ x.1 ≤ 9223372036854775807) ∧ x.2.1 < 18446744073709551616 ∧ x.2.2.1 < 18446744073709551616 ∧ (-9223372036854775808 ≤ x.2.2.2 ∧ x.2.2.2 ≤ 9223372036854775807)) ∧
      (d = .nil ∧ l = [] ∨ ∃ el sp : List (DataW H), d = .slice el sp ∧ el.length = l.length) := by
  obtain ⟨a0, len, cap, rfl⟩ := hv
  obtain ⟨fuel, hf⟩ := h
  have hc : Try.prog.cellsOf 42 = 4 := by kernel_rfl
  have hc1 : Try.prog.cellsOf 2 = 1 := by kernel_rfl
  have hc2 : Try.prog.cellsOf 33 = 1 := by kernel_rfl
  rcases Go.Deep.open_slice Try.underlying25 hf with ⟨hcs, hx⟩ | ⟨a, len', cap', m, n, D, Pl, hcs, _, hl, hm, hmm, hx, hcell⟩
  · have e : (Value.slice a0 len cap) = .slice none 0 0 := by simpa [Value.cells] using hcs
    injection e with e1 e2 e3
    subst e1; subst e2; subst e3
    injection hx with hx
    exact ⟨none, 0, [], rfl, by simp, Row.nil_ _ _, by simp, by unfold maxLen; omega, fun s hs => (by simp at hs), .inl ⟨hx, rfl⟩⟩
  · have e : (Value.slice a0 len cap) = .slice (some a) len' cap' := by simpa [Value.cells] using hcs
    injection e with e1 e2 e3
    subst e1; subst e2; subst e3
    simp only [if_true] at hmm
    have each : ∀ i, i < len → ∃ x : Hd, (W.cell? (a.add (i * 4)) = some (.int .i64 x.1) ∧ W.cell? (a.add (i * 4 + 1)) = some (.int .u64 (x.2.1 : Int)) ∧ W.cell? (a.add (i * 4 + 2)) = some (.int .u64 (x.2.2.1 : Int)) ∧ W.cell? (a.add (i * 4 + 3)) = some (.int .i64 x.2.2.2)) ∧
        (-9223372036854775808 ≤ x.1 ∧ x.1 ≤ 9223372036854775807) ∧ x.2.1 < 18446744073709551616 ∧ x.2.2.1 < 18446744073709551616 ∧ (-9223372036854775808 ≤ x.2.2.2 ∧ x.2.2.2 ≤ 9223372036854775807) := by
      intro i hi
      obtain ⟨cs, g1, g2⟩ := hcell i (by omega)
      rw [hc] at g1
      obtain ⟨_, hlen, hcc⟩ := World.cells?_some g1
      obtain ⟨y0, y1, y2, y3, k, _, _, h0, h1, h2, h3⟩ := trod_struct4 Try.underlying42 g2
      match cs, hlen with
      | [c0, c1, c2, c3], _ =>
        simp [hc1, hc2] at h0 h1 h2 h3
        obtain ⟨x1, e1, _, l1⟩ := DataW.trod_int Try.underlying2 h0
        obtain ⟨x2, e2, _, l2⟩ := DataW.trod_int Try.underlying33 h1
        obtain ⟨x3, e3, _, l3⟩ := DataW.trod_int Try.underlying33 h2
        obtain ⟨x4, e4, _, l4⟩ := DataW.trod_int Try.underlying2 h3
        simp only [List.cons.injEq, and_true] at e1 e2 e3 e4
        subst e1; subst e2; subst e3; subst e4
        have b1 := bounds_i64 l1
        have b2 := bounds_u64 l2
        have b3 := bounds_u64 l3
        have b4 := bounds_i64 l4
        have z0 := hcc 0 (by omega)
        have z1 := hcc 1 (by omega)
        have z2 := hcc 2 (by omega)
        have z3 := hcc 3 (by omega)
        rw [Go.Deep.add_add] at z0 z1 z2 z3
        refine ⟨(x1, x2.toNat, x3.toNat, x4), ⟨by simpa using z0, ?_, ?_, by simpa using z3⟩, ⟨by dsimp only; omega, by dsimp only; omega⟩, by dsimp only; omega, by dsimp only; omega, ⟨by dsimp only; omega, by dsimp only; omega⟩⟩
        · dsimp only; rw [Int.toNat_of_nonneg b2.1]; simpa using z1
        · dsimp only; rw [Int.toNat_of_nonneg b3.1]; simpa using z2
    obtain ⟨q, hq⟩ := Go.Deep.choose_lt each
    have hlen : ((List.range len).map q).length = len := by simp
    refine ⟨some a, cap, (List.range len).map q, by rw [hlen], by rw [hlen]; omega, fun h0 => ?_, by rw [hlen]; exact hl, hm, ?_, ?_⟩
    · rw [hcells_length, hlen] at h0
      obtain ⟨b, off, spot⟩ := a
      have hspot : spot = none := by simpa [Addr.add] using World.cell?_spot (hq 0 (by omega)).1.1
      subst hspot
      refine ⟨b, off, rfl, fun k hk => ?_⟩
      rw [hcells_length, hlen] at hk
      have hi : k / 4 < len := by omega
      have hg := hcells_get ((List.range len).map q) (k / 4) (by rw [hlen]; exact hi)
      obtain ⟨⟨h1, h2, h3, h4⟩, _⟩ := hq (k / 4) hi
      rw [Go.WideShapes.add_plain] at h1 h2 h3 h4
      simp only [List.getElem_map, List.getElem_range] at hg
      rcases (by omega : k = k / 4 * 4 ∨ k = k / 4 * 4 + 1 ∨ k = k / 4 * 4 + 2 ∨ k = k / 4 * 4 + 3) with hk2 | hk2 | hk2 | hk2
      · obtain ⟨l1, e1⟩ := List.getElem?_eq_some_iff.1 hg.1
        have e3 : (hcells ((List.range len).map q))[k] = .int .i64 (q (k / 4)).1 := by rw [← e1]; congr 1
        rw [e3, ← h1]
        congr 2
        omega
      · obtain ⟨l1, e1⟩ := List.getElem?_eq_some_iff.1 hg.2.1
        have e3 : (hcells ((List.range len).map q))[k] = .int .u64 ((q (k / 4)).2.1 : Int) := by rw [← e1]; congr 1
        rw [e3, ← h2]
        congr 2
        omega
      · obtain ⟨l1, e1⟩ := List.getElem?_eq_some_iff.1 hg.2.2.1
        have e3 : (hcells ((List.range len).map q))[k] = .int .u64 ((q (k / 4)).2.2.1 : Int) := by rw [← e1]; congr 1
        rw [e3, ← h3]
        congr 2
        omega
      · obtain ⟨l1, e1⟩ := List.getElem?_eq_some_iff.1 hg.2.2.2
        have e3 : (hcells ((List.range len).map q))[k] = .int .i64 (q (k / 4)).2.2.2 := by rw [← e1]; congr 1
        rw [e3, ← h4]
        congr 2
        omega
    · intro x hx
      obtain ⟨i, hi, rfl⟩ := List.mem_map.1 hx
      exact (hq i (List.mem_range.1 hi)).2
    · injection hx with hx
      exact .inr ⟨_, _, hx, by simp⟩
theorem arg_heads (hok : Value.okWide Try.prog W .any base 25 v) (h : DataW.Trod enc Try.prog W 0 (fun _ => true) true 25 v d ps) :
    ∃ (A : Option Addr) (c : Nat) (l : List Hd), v = .slice A l.length c ∧ l.length ≤ maxLen ∧ Row W A (hcells l) ∧ l.length ≤ c ∧ c ≤ maxLen ∧ (∀ x ∈ l, (-9223372036854775808 ≤ x.1 ∧ x.1 ≤ 9223372036854775807) ∧ x.2.1 < 18446744073709551616 ∧ x.2.2.1 < 18446744073709551616 ∧ (-9223372036854775808 ≤ x.2.2.2 ∧ x.2.2.2 ≤ 9223372036854775807)) ∧
      (d = .nil ∧ l = [] ∨ ∃ el sp : List (DataW H), d = .slice el sp ∧ el.length = l.length) :=
  arg_heads_of (okWide_slice Try.underlying25 hok) h
end
end Go.Proofs.Ytjcockcilkiggaa
