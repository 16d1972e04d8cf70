/- The reference: LeafSaid returns the preimage of entries of one path, NodeSaid that of two hashes. They write nothing that was there. -/
import Derived.Test.YtmmmolbejfdamaaBook
import Derived.Test.YtmmmolbejfdamaaParts
import Derived.Test.YtmmmolbejfdamaaSaid
import Derived.Test.YtmmmolbejfdamaaRefMark
namespace Go.Proofs.Ytmmmolbejfdamaa
open Go.RowKit

/-- What the entries say, one behind the other. -/
def leafBytes (es : List Ent) : Bytes := es.flatMap fun x => Wire.enc [x.1, x.2]
def leafOf (es : List Ent) : Bytes := if es = [] then [0] else 1 :: leafBytes es
theorem leafBytes_snoc (es : List Ent) (x : Ent) : leafBytes (es ++ [x]) = leafBytes es ++ Wire.enc [x.1, x.2] := by simp [leafBytes]
/-- The hash of nothing. -/
def nil0 : Nat := Hash.of [0]
def nodeOf (a b : Nat) : Bytes := if a = nil0 ∧ b = nil0 then [0] else said 2 a b

theorem parts_two (a b : Bytes) (w : World) (g : Nat) (hg : g = w.heap.size) (h : a.length + b.length ≤ 596) (t : TypeId) :
    Calls Try.prog 81 #[.slice (some ⟨g, 0, none⟩) 2 2] (w.alloc (.cells #[.string (S a), .string (S b)] t)) fun e w' => e = .returned (.tuple #[.string (S (Wire.enc [a, b])), .bool true]) ∧ Below (w.alloc (.cells #[.string (S a), .string (S b)] t)).heap.size (w.alloc (.cells #[.string (S a), .string (S b)] t)) w' :=
  parts_yes (some ⟨g, 0, none⟩) 2 [a, b] _ (by unfold maxLen; simp) (by simp [Wire.fitsB, Wire.encLen]; omega) true (by simp) (Row.new w g _ _ t hg rfl)

set_option maxRecDepth 100000 in
set_option maxHeartbeats 400000 in
theorem refLeaf (A : Option Addr) (c : Nat) (es : List Ent) (w : World) (hm : es.length ≤ 1000) (hes : ∀ x ∈ es, x.1.length + x.2.length ≤ 596) (hA : Row w A (encells es)) :
    Calls Try.prog 59 #[.slice A es.length c] w fun e w' => e = .returned (.string (S (leafOf es))) ∧ Below w.heap.size w w' := by
  rcases Nat.eq_zero_or_pos es.length with h0 | h0
  · obtain rfl : es = [] := List.eq_nil_of_length_eq_zero h0
    rw [List.length_nil]
    clear hes h0 hm hA
    go_enter Try.func59, Try.ntmps59
    go_wp2
    go_ret
    exact ⟨rfl, Below.refl _ _⟩
  · have c1 : ((es.length : Int) == 0) = false := by
      rw [beq_eq_false_iff_ne]
      omega
    have HL : Hid (leafOf es = 1 :: leafBytes es) := by
      show leafOf es = _
      rw [leafOf, if_neg (by rintro rfl; simp at h0)]
    have HE := Lib.hid hes
    clear hes h0
    go_enter Try.func59, Try.ntmps59
    go_wp2
    go_loopw [3, 13] (fun o i wr => ∃ (k : Nat) (out : Bytes), k ≤ es.length ∧ i = .int .i64 k ∧ o = .string (S out) ∧ out.length ≤ 1 + k * 600 ∧ Hid (out = 1 :: leafBytes (es.take k)) ∧ Below w.heap.size w wr) (fun _ i _ => es.length - (intOf i).toNat)
    case atStart => exact ⟨0, [1], Nat.zero_le _, rfl, rfl, by simp, rfl, Below.refl _ _⟩
    case round =>
      obtain ⟨k, out, hk, rfl, rfl, hol, HO, hbl⟩ := hrel
      have hsz := hbl.size
      clear c1
      by_cases hlt : k < es.length
      · obtain ⟨g, off, rfl, h1, h2⟩ := (hA.below hbl).ent k hlt
        have hi0 : (0 : Int) ≤ (k : Int) := by omega
        have hi1 : (k : Int) < (es.length : Int) := by omega
        have hx := HE.out _ (List.getElem_mem hlt)
        have HO' : Hid (out ++ Wire.enc [es[k].1, es[k].2] = 1 :: leafBytes (es.take (k + 1))) := by
          show out ++ _ = _
          rw [List.take_succ_eq_append_getElem hlt, leafBytes_snoc, HO.out]
          rfl
        have hel : (Wire.enc [es[k].1, es[k].2]).length ≤ 600 := by
          rw [Wire.enc_length]
          simp [Wire.encLen]
          omega
        have hP := fun w g hg t => Lib.hid (parts_two es[k].1 es[k].2 w g hg hx t)
        clear hA HO hx
        generalize Wire.enc [es[k].1, es[k].2] = z at *
        generalize es[k].1 = a at *
        generalize es[k].2 = b at *
        go_wp2_with fail
        refine (hP _ _ (by simp) _).out.mono ?_
        rintro e w1 ⟨rfl, hb1⟩
        have hb0 : Below w.heap.size w w1 := below_chain ((hbl.alloc hsz _).alloc (by simp; omega) _) hb1
        go_wp2
        go_roundw
        case rel => exact ⟨k + 1, out ++ z, by omega, by go_num, rfl, by rw [List.length_append]; omega, HO', hb0⟩
        case measure => simp [intOf]; omega
      · have HO' : Hid (leafOf es = out) := by
          show leafOf es = out
          rw [HL.out, HO.out, List.take_of_length_le (by omega)]
        go_wp2
        go_ret
        exact ⟨by rw [HO'.out]; rfl, hbl⟩

theorem refMark_0 (w : World) : Calls Try.prog 40 #[.string ⟨#[0]⟩] w fun e w' => e = .returned (.int .u64 (nil0 : Int)) ∧ w = w' := refMark [0] w (by show _ ≤ (2 : Nat) ^ 63 - 1; simp)

set_option maxRecDepth 100000 in
set_option maxHeartbeats 400000 in
theorem refNode (a b : Nat) (w : World) (ha : a < 18446744073709551616) (hb : b < 18446744073709551616) :
    Calls Try.prog 61 #[.int .u64 (a : Int), .int .u64 (b : Int)] w fun e w' => e = .returned (.string (S (nodeOf a b))) ∧ Below w.heap.size w w' := by
  have hZ := fun w => Lib.hid (refMark_0 w)
  have hT := fun w => Lib.hid (refTwo 2 a b w ha hb)
  have HN : Hid (nodeOf a b = if a = nil0 ∧ b = nil0 then [0] else said 2 a b) := rfl
  generalize said 2 a b = s at *
  generalize nodeOf a b = r at *
  generalize nil0 = z at *
  clear ha hb
  by_cases h1 : a = z
  · have c1 : ((a : Int) == (z : Int)) = true := by simp [h1]
    by_cases h2 : b = z
    · have c2 : ((b : Int) == (z : Int)) = true := by simp [h2]
      have HR : Hid (r = [0]) := by
        show r = _
        rw [HN.out, if_pos ⟨h1, h2⟩]
      clear h1 h2 HN hT
      go_enter Try.func61, Try.ntmps61
      go_wp2_with fail
      refine (hZ _).out.mono ?_
      rintro e w1 ⟨rfl, rfl⟩
      go_wp2
      go_ret
      exact ⟨by rw [HR.out]; rfl, Below.refl _ _⟩
    · have c2 : ((b : Int) == (z : Int)) = false := by
        rw [beq_eq_false_iff_ne]
        omega
      have HR : Hid (r = s) := by
        show r = _
        rw [HN.out, if_neg (fun h => h2 h.2)]
      clear h1 h2 HN
      go_enter Try.func61, Try.ntmps61
      go_wp2_with fail
      refine (hZ _).out.mono ?_
      rintro e w1 ⟨rfl, rfl⟩
      go_wp2_with fail
      refine (hT _).out.mono ?_
      rintro e w1 ⟨rfl, hb1⟩
      go_wp2
      go_ret
      exact ⟨by rw [HR.out]; rfl, hb1⟩
  · have c1 : ((a : Int) == (z : Int)) = false := by
      rw [beq_eq_false_iff_ne]
      omega
    have HR : Hid (r = s) := by
      show r = _
      rw [HN.out, if_neg (fun h => h1 h.1)]
    clear h1 HN
    go_enter Try.func61, Try.ntmps61
    go_wp2_with fail
    refine (hZ _).out.mono ?_
    rintro e w1 ⟨rfl, rfl⟩
    go_wp2_with fail
    refine (hT _).out.mono ?_
    rintro e w1 ⟨rfl, hb1⟩
    go_wp2
    go_ret
    exact ⟨by rw [HR.out]; rfl, hb1⟩
end Go.Proofs.Ytmmmolbejfdamaa
