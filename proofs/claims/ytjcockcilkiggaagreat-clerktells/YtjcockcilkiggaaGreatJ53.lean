/- A list of books, and a clerk, among a law's arguments, in rows of cells. -/
import Derived.Test.YtjcockcilkiggaaGreatJ10
import Derived.Test.YtjcockcilkiggaaGreatJ51
import Derived.Test.YtjcockcilkiggaaGreatJ52
import Derived.Test.YtjcockcilkiggaaGreatJ01
import Derived.ProofKit
import Derived.OpenShut
import Derived.ChangeSame
import Derived.Lib.SmallJoins
import Derived.Test.YtjcockcilkiggaaGreatJ06
import Derived.Test.YtjcockcilkiggaaGreatJ23
namespace Go.Proofs.YtjcockcilkiggaaGreat
set_option maxRecDepth 100000
open Go.ChangeShapes Go.WideShapes Go.ChangeAt Go.RowKit Go.Joins

section
variable {H : Type} {enc : TypeId × Value → H} {W : World} {base : Nat} {v : Value} {d : DataW H} {ps : List MemPlace}

theorem arg_books_of (hv : ∃ a len cap, v = .slice a len cap) (h : DataW.Trod enc Tryz.prog W 0 (fun _ => true) true 26 v d ps) :
    ∃ (B : Option Addr) (c : Nat) (bs : List Bp), v = .slice B bs.length c ∧ bs.length ≤ maxLen ∧ Books W B bs ∧ bs.length ≤ c ∧ c ≤ maxLen ∧ ∀ p ∈ bs, (p.2.2.length ≤ maxLen ∧ ∀ x ∈ p.2.2, x.1.length ≤ maxLen ∧ x.2.length ≤ maxLen) ∧ p.2.2.length ≤ p.2.1 := by
  obtain ⟨a0, len, cap, rfl⟩ := hv
  obtain ⟨fuel, hf⟩ := h
  rcases Go.Deep.open_slice1 Tryz.underlying26 (by kernel_rfl) hf with ⟨hcs, hx⟩ | ⟨a, len', cap', m, n, V, D, Pl, hcs, _, hl, hm, hmm, hx, hcell⟩
  · have e : (Value.slice a0 len cap) = .slice none 0 0 := by simpa [Value.cells] using hcs
    injection e with e1 e2 e3
    subst e1; subst e2; subst e3
    exact ⟨none, 0, [], rfl, by simp, Books.nil _ _, Nat.le_refl _, by unfold maxLen; omega, fun p hp => by simp at hp⟩
  · have e : (Value.slice a0 len cap) = .slice (some a) len' cap' := by simpa [Value.cells] using hcs
    injection e with e1 e2 e3
    subst e1; subst e2; subst e3
    simp only [if_true] at hmm
    have each : ∀ i, i < len → ∃ p : Bp, (W.cell? (a.add i) = some (.slice p.1 p.2.2.length p.2.1) ∧ Row W p.1 (encells p.2.2)) ∧ (p.2.2.length ≤ maxLen ∧ ∀ x ∈ p.2.2, x.1.length ≤ maxLen ∧ x.2.length ≤ maxLen) ∧ p.2.2.length ≤ p.2.1 := by
      intro i hi
      obtain ⟨h1, h2⟩ := hcell i (by omega)
      have v1 : ∃ a len cap, V i = .slice a len cap := by
        rcases Go.Deep.open_slice Tryz.underlying39 h2 with ⟨e, _⟩ | ⟨a, len, cap, _, _, _, _, e, _⟩
        · exact ⟨none, 0, 0, by simpa using e⟩
        · exact ⟨some a, len, cap, by simpa using e⟩
      obtain ⟨A, c, es, e, q1, q2, q3, q4, _⟩ := arg_ents_of (enc := enc) (W := W) (v := V i) (d := D i) (ps := Pl i) v1 ⟨n, by obtain ⟨a, b, c, e⟩ := v1; rw [e] at h2 ⊢; simpa [Value.cells] using h2⟩
      exact ⟨(A, c, es), ⟨by rw [h1, e], q2⟩, ⟨q1, q3⟩, q4⟩
    obtain ⟨q, hq⟩ := Go.Deep.choose_lt each
    have hlen : ((List.range len).map q).length = len := by simp
    refine ⟨some a, cap, (List.range len).map q, by rw [hlen], by rw [hlen]; omega, ⟨fun h0 => ?_, fun p hp => ?_⟩, by rw [hlen]; exact hl, hm, fun p hp => ?_⟩
    · rw [bkcells_length, hlen] at h0
      obtain ⟨b, off, spot⟩ := a
      have hspot : spot = none := by simpa [Addr.add] using World.cell?_spot (hq 0 (by omega)).1.1
      subst hspot
      refine ⟨b, off, rfl, fun k hk => ?_⟩
      rw [bkcells_length, hlen] at hk
      have := (hq k hk).1.1
      rw [Go.WideShapes.add_plain] at this
      rw [this]
      simp [bkcells]
    · obtain ⟨i, hi, rfl⟩ := List.mem_map.1 hp
      exact (hq i (List.mem_range.1 hi)).1.2
    · obtain ⟨i, hi, rfl⟩ := List.mem_map.1 hp
      exact (hq i (List.mem_range.1 hi)).2

theorem trod_struct6 {P : Program} {w : World} {b : Nat} {spare : Nat → Bool} {held : Bool} {t : TypeId} {f0 f1 f2 f3 f4 f5 : Field} {fuel : Nat} {cs : List Value} {x : DataW H × List MemPlace} (ht : P.underlying t = some (.struct #[f0, f1, f2, f3, f4, f5])) (h : DataW.trod enc P w b spare held fuel t cs = some x) :
    ∃ y0 y1 y2 y3 y4 y5 n, x = (.agg [y0.1, y1.1, y2.1, y3.1, y4.1, y5.1], y0.2 ++ (y1.2 ++ (y2.2 ++ (y3.2 ++ (y4.2 ++ y5.2))))) ∧ cs.length = P.cellsOf t ∧ DataW.trod enc P w b spare held n f0.type ((cs.drop f0.offset).take (P.cellsOf f0.type)) = some y0 ∧
      DataW.trod enc P w b spare held n f1.type ((cs.drop f1.offset).take (P.cellsOf f1.type)) = some y1 ∧ DataW.trod enc P w b spare held n f2.type ((cs.drop f2.offset).take (P.cellsOf f2.type)) = some y2 ∧
      DataW.trod enc P w b spare held n f3.type ((cs.drop f3.offset).take (P.cellsOf f3.type)) = some y3 ∧ DataW.trod enc P w b spare held n f4.type ((cs.drop f4.offset).take (P.cellsOf f4.type)) = some y4 ∧
      DataW.trod enc P w b spare held n f5.type ((cs.drop f5.offset).take (P.cellsOf f5.type)) = some y5 := by
  obtain ⟨xs, n, _, rfl, hl, hlen, hf⟩ := DataW.trod_struct ht h
  match xs, hlen with
  | [y0, y1, y2, y3, y4, y5], _ => exact ⟨y0, y1, y2, y3, y4, y5, n, by simp, hl, by simpa using hf 0 f0 rfl, by simpa using hf 1 f1 rfl, by simpa using hf 2 f2 rfl, by simpa using hf 3 f3 rfl, by simpa using hf 4 f4 rfl, by simpa using hf 5 f5 rfl⟩
/-- A clerk among the arguments. -/
theorem arg_clerk (hok : Value.okWide Tryz.prog W .any base 28 v) (h : DataW.Trod enc Tryz.prog W 0 (fun _ => true) true 28 v d ps) :
    ∃ (m ba ev nw : Int) (A I B : Option Addr) (c d' e : Nat) (l : List Ak) (hs : List Hd) (bs : List Bp), v = .agg #[.int .i64 m, .slice A l.length c, .int .i64 ba, .int .i64 ev, .int .i64 nw, .slice I hs.length d', .slice B bs.length e] ∧
      ((-9223372036854775808 ≤ m ∧ m ≤ 9223372036854775807) ∧ (-9223372036854775808 ≤ ba ∧ ba ≤ 9223372036854775807) ∧ (-9223372036854775808 ≤ ev ∧ ev ≤ 9223372036854775807) ∧ (-9223372036854775808 ≤ nw ∧ nw ≤ 9223372036854775807)) ∧
      (l.length ≤ maxLen ∧ Row W A (qcells l) ∧ l.length ≤ c ∧ c ≤ maxLen ∧ (∀ x ∈ l, (x.1.length ≤ maxLen ∧ x.2.1.length ≤ maxLen) ∧ x.2.2.1 < 18446744073709551616 ∧ x.2.2.2 < 18446744073709551616)) ∧
      (hs.length ≤ maxLen ∧ Row W I (hcells hs) ∧ hs.length ≤ d' ∧ d' ≤ maxLen ∧ (∀ x ∈ hs, (-9223372036854775808 ≤ x.1 ∧ x.1 ≤ 9223372036854775807) ∧ x.2.1 < 18446744073709551616 ∧ x.2.2.1 < 18446744073709551616 ∧ (-9223372036854775808 ≤ x.2.2.2 ∧ x.2.2.2 ≤ 9223372036854775807))) ∧
      (bs.length ≤ maxLen ∧ Books W B bs ∧ bs.length ≤ e ∧ e ≤ maxLen ∧ ∀ p ∈ bs, (p.2.2.length ≤ maxLen ∧ ∀ x ∈ p.2.2, x.1.length ≤ maxLen ∧ x.2.length ≤ maxLen) ∧ p.2.2.length ≤ p.2.1) := by
  obtain ⟨cs, rfl, hcs⟩ := okWide_struct Tryz.underlying28 hok
  have hc : Tryz.prog.cellsOf 28 = 7 := by kernel_rfl
  have hcq : Tryz.prog.cellsOf 24 = 2 := by kernel_rfl
  have hc1 : Tryz.prog.cellsOf 3 = 1 := by kernel_rfl
  have hc2 : Tryz.prog.cellsOf 22 = 1 := by kernel_rfl
  have hc3 : Tryz.prog.cellsOf 2 = 1 := by kernel_rfl
  have hc4 : Tryz.prog.cellsOf 25 = 1 := by kernel_rfl
  have hc5 : Tryz.prog.cellsOf 26 = 1 := by kernel_rfl
  obtain ⟨fuel, hf⟩ := h
  obtain ⟨y0, y1, y2, y3, y4, y5, k, _, _, h0, h1, h2, h3, h4, h5⟩ := trod_struct6 Tryz.underlying28 hf
  rw [hc] at hcs
  obtain ⟨l⟩ := cs
  match l, hcs with
  | [c0, c1, c2, c3, c4, c5, c6], _ =>
    simp [Value.cells, hcq, hc1, hc3, hc4, hc5] at h0 h1 h2 h3 h4 h5
    obtain ⟨z0, z1, k', _, _, g0, g1⟩ := trod_struct2 Tryz.underlying24 h0
    simp [hc1, hc2] at g0 g1
    obtain ⟨x0, e0, _, l0⟩ := DataW.trod_int Tryz.underlying3 g0
    obtain ⟨x1, e1, _, l1⟩ := DataW.trod_int Tryz.underlying3 h1
    obtain ⟨x2, e2, _, l2⟩ := DataW.trod_int Tryz.underlying3 h2
    obtain ⟨x3, e3, _, l3⟩ := DataW.trod_int Tryz.underlying2 h3
    simp only [List.cons.injEq, and_true] at e0 e1 e2 e3
    subst e0; subst e1; subst e2; subst e3
    have b0 := bounds_i64 l0
    have b1 := bounds_i64 l1
    have b2 := bounds_i64 l2
    have b3 := bounds_i64 l3
    have v1 : ∃ a len cap, c1 = .slice a len cap := by
      rcases Go.Deep.open_slice Tryz.underlying22 g1 with ⟨e, _⟩ | ⟨a, len, cap, _, _, _, _, e, _⟩
      · exact ⟨none, 0, 0, by simpa using e⟩
      · exact ⟨some a, len, cap, by simpa using e⟩
    have v5 : ∃ a len cap, c5 = .slice a len cap := by
      rcases Go.Deep.open_slice Tryz.underlying25 h4 with ⟨e, _⟩ | ⟨a, len, cap, _, _, _, _, e, _⟩
      · exact ⟨none, 0, 0, by simpa using e⟩
      · exact ⟨some a, len, cap, by simpa using e⟩
    have v6 : ∃ a len cap, c6 = .slice a len cap := by
      rcases Go.Deep.open_slice Tryz.underlying26 h5 with ⟨e, _⟩ | ⟨a, len, cap, _, _, _, _, e, _⟩
      · exact ⟨none, 0, 0, by simpa using e⟩
      · exact ⟨some a, len, cap, by simpa using e⟩
    obtain ⟨A, c, l, rfl, q1, q2, q3, q4, q5, _⟩ := arg_asks_of v1 (⟨k', by obtain ⟨a, b, c, rfl⟩ := v1; simpa [Value.cells] using g1⟩ : DataW.Trod enc Tryz.prog W 0 (fun _ => true) true 22 c1 z1.1 z1.2)
    obtain ⟨I, d', hs, rfl, r1, r2, r3, r4, r5, _⟩ := arg_heads_of v5 (⟨k, by obtain ⟨a, b, c, rfl⟩ := v5; simpa [Value.cells] using h4⟩ : DataW.Trod enc Tryz.prog W 0 (fun _ => true) true 25 c5 y4.1 y4.2)
    obtain ⟨B, e, bs, rfl, s1, s2, s3, s4, s5⟩ := arg_books_of v6 (⟨k, by obtain ⟨a, b, c, rfl⟩ := v6; simpa [Value.cells] using h5⟩ : DataW.Trod enc Tryz.prog W 0 (fun _ => true) true 26 c6 y5.1 y5.2)
    exact ⟨x0, x1, x2, x3, A, I, B, c, d', e, l, hs, bs, rfl, ⟨⟨by omega, by omega⟩, ⟨by omega, by omega⟩, ⟨by omega, by omega⟩, ⟨by omega, by omega⟩⟩, ⟨q1, q2, q3, q4, q5⟩, ⟨r1, r2, r3, r4, r5⟩, ⟨s1, s2, s3, s4, s5⟩⟩
end
end Go.Proofs.YtjcockcilkiggaaGreat
/- A request among a law's arguments: a name, a value and two numbers. -/
namespace Go.Proofs.YtjcockcilkiggaaGreat
set_option maxRecDepth 100000
open Go.ChangeShapes Go.WideShapes Go.ChangeAt Go.RowKit Go.Joins

section
variable {H : Type} {enc : TypeId × Value → H} {W : World} {base : Nat} {v : Value} {d : DataW H} {ps : List MemPlace}

theorem arg_ask (hok : Value.okWide Tryz.prog W .any base 31 v) (h : DataW.Trod enc Tryz.prog W 0 (fun _ => true) true 31 v d ps) :
    ∃ (n v' : Bytes) (x t : Nat), v = .agg #[.string (S n), .string (S v'), .int .u64 (x : Int), .int .u64 (t : Int)] ∧ n.length ≤ maxLen ∧ v'.length ≤ maxLen ∧ x < 18446744073709551616 ∧ t < 18446744073709551616 := by
  obtain ⟨cs, rfl, hcs⟩ := okWide_struct Tryz.underlying31 hok
  have hc : Tryz.prog.cellsOf 31 = 4 := by kernel_rfl
  have hc1 : Tryz.prog.cellsOf 9 = 1 := by kernel_rfl
  have hc2 : Tryz.prog.cellsOf 29 = 1 := by kernel_rfl
  obtain ⟨fuel, hf⟩ := h
  obtain ⟨y0, y1, y2, y3, n, _, _, h0, h1, h2, h3⟩ := trod_struct4 Tryz.underlying31 hf
  rw [hc] at hcs
  obtain ⟨l⟩ := cs
  match l, hcs with
  | [c0, c1, c2, c3], _ =>
    simp [Value.cells, hc1, hc2] at h0 h1 h2 h3
    obtain ⟨s1, e1, _, l1⟩ := DataW.trod_string Tryz.underlying9 h0
    obtain ⟨s2, e2, _, l2⟩ := DataW.trod_string Tryz.underlying9 h1
    obtain ⟨x3, e3, _, l3⟩ := DataW.trod_int Tryz.underlying29 h2
    obtain ⟨x4, e4, _, l4⟩ := DataW.trod_int Tryz.underlying29 h3
    simp only [List.cons.injEq, and_true] at e1 e2 e3 e4
    subst e1; subst e2; subst e3; subst e4
    have b3 := bounds_u64 l3
    have b4 := bounds_u64 l4
    refine ⟨s1.data.toList, s2.data.toList, x3.toNat, x4.toNat, by rw [← S_of, ← S_of, Int.toNat_of_nonneg b3.1, Int.toNat_of_nonneg b4.1], ?_, ?_, by omega, by omega⟩
    · rw [Array.length_toList]; exact l1
    · rw [Array.length_toList]; exact l2
end
end Go.Proofs.YtjcockcilkiggaaGreat
/- slices.Equal at entries returns whether two lists of entries are the same (at strings: Fits). It writes nothing. -/
namespace Go.Proofs.YtjcockcilkiggaaGreat
open Go.RowKit

set_option maxRecDepth 100000 in
set_option maxHeartbeats 400000 in
theorem eqEnts (A C : Option Addr) (ca cc : Nat) (ss tt : List Ent) (w : World) (hm : ss.length ≤ maxLen) (b : Bool) (hb : decide (ss = tt) = b)
    (hA : Row w A (encells ss)) (hC : Row w C (encells tt)) :
    Calls Tryz.prog 14 #[.slice A ss.length ca, .slice C tt.length cc] w fun e w' => e = .returned (.bool b) ∧ ∃ m, w' = w.drewN m := by
  unfold maxLen at hm
  by_cases hlen : ss.length = tt.length
  · have HB := Lib.hid hb
    clear hb
    have HL := Lib.hid hlen
    have hne : ((ss.length : Int) != (tt.length : Int)) = false := by simp [hlen]
    have hl1 : ss.length ≤ tt.length := by omega
    clear hlen
    go_enter Tryz.func14, Tryz.ntmps14
    go_wp2
    go_loopw [13] (fun i wr => ∃ k m : Nat, k ≤ ss.length ∧ i = .int .i64 k ∧ wr = w.drewN m ∧ Hid (ss.take k = tt.take k)) (fun i _ => ss.length - (intOf i).toNat)
    case atStart => exact ⟨0, 0, Nat.zero_le _, rfl, rfl, rfl⟩
    case round =>
      obtain ⟨k, m, hk, rfl, rfl, hpre⟩ := hrel
      by_cases hlt : k < ss.length
      · have hlt' : k < tt.length := by omega
        obtain ⟨g, off, rfl, h1, h2⟩ := hA.ent k hlt
        obtain ⟨g', off', rfl, h3, h4⟩ := hC.ent k hlt'
        have hi0 : (0 : Int) ≤ (k : Int) := by omega
        have hi1 : (k : Int) < (ss.length : Int) := by omega
        have hi2 : (k : Int) < (tt.length : Int) := by omega
        clear hA hC
        have HS : Hid (ss[k].1 = tt[k].1 → ss[k].2 = tt[k].2 → ss.take (k + 1) = tt.take (k + 1)) := by
          show _ → _ → _
          intro e1 e2
          rw [List.take_succ_eq_append_getElem hlt, List.take_succ_eq_append_getElem hlt', hpre.out, Prod.ext e1 e2]
        have HN : Hid (¬ (ss[k].1 = tt[k].1 ∧ ss[k].2 = tt[k].2) → b = false) := by
          show _ → _
          intro h
          rw [← HB.out, decide_eq_false_iff_not]
          rintro rfl
          exact h ⟨rfl, rfl⟩
        generalize ss[k].1 = a1 at *
        generalize ss[k].2 = a2 at *
        generalize tt[k].1 = b1 at *
        generalize tt[k].2 = b2 at *
        have c1 : (a1 == b1) = true ∨ (a1 == b1) = false := by cases a1 == b1 <;> simp
        have c2 : (a2 == b2) = true ∨ (a2 == b2) = false := by cases a2 == b2 <;> simp
        rcases c1 with c1 | c1
        · rcases c2 with c2 | c2
          · have HS' := Lib.hid (HS.out (beq_iff_eq.1 c1) (beq_iff_eq.1 c2))
            clear HS HN
            go_wp2
            go_quiet (fail)
            go_wp2
            go_roundw
            case rel => exact ⟨k + 1, _, by omega, by go_num, rfl, HS'⟩
            case measure => simp [intOf]; omega
          · have HF := Lib.hid (HN.out (fun h => by rw [beq_eq_false_iff_ne] at c2; exact c2 h.2))
            clear HS HN
            go_wp2
            go_quiet (fail)
            go_wp2
            go_ret
            exact ⟨by rw [HF.out]; rfl, _, World.drewN_drewN _ _ _⟩
        · have HF := Lib.hid (HN.out (fun h => by rw [beq_eq_false_iff_ne] at c1; exact c1 h.1))
          clear HS HN c2
          go_wp2
          go_quiet (fail)
          go_wp2
          go_ret
          exact ⟨by rw [HF.out]; rfl, _, World.drewN_drewN _ _ _⟩
      · have HF : Hid (b = true) := by
          show b = true
          rw [← HB.out, decide_eq_true_eq]
          have := hpre.out
          have e2 := HL.out
          rwa [List.take_of_length_le (by omega), List.take_of_length_le (by omega)] at this
        go_wp2
        go_ret
        exact ⟨by rw [HF.out]; rfl, _, rfl⟩
  · have hne : ((ss.length : Int) != (tt.length : Int)) = true := by simp; omega
    have HF : Hid (b = false) := by
      show b = false
      rw [← hb, decide_eq_false_iff_not]
      rintro rfl
      exact hlen rfl
    clear hlen hb
    go_enter Tryz.func14, Tryz.ntmps14
    go_wp2
    go_ret
    exact ⟨by rw [HF.out]; rfl, 0, rfl⟩
end Go.Proofs.YtjcockcilkiggaaGreat
