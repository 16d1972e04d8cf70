/- The reference: AskFault returns the first error of a request, Tag and AskTag the tag of a string and of a request. They write nothing that was there. -/
import Derived.Test.YtgmanaciadfkdaaRefPath
import Derived.Test.YtgmanaciadfkdaaRefLeaf
namespace Go.Proofs.Ytgmanaciadfkdaa
open Go.RowKit

def askFault (n v : Bytes) : Int := if Bin.name n = true then (if 20 < v.length then 2 else 0) else 3
theorem askFault_ok (n v : Bytes) : askFault n v = 0 ↔ Bin.name n = true ∧ v.length ≤ 20 := by
  unfold askFault
  by_cases h : Bin.name n = true
  · rw [if_pos h]
    by_cases h2 : 20 < v.length
    · rw [if_pos h2]
      exact ⟨fun h => by simp at h, fun h => by have := h.2; omega⟩
    · rw [if_neg h2]
      exact ⟨fun _ => ⟨h, by omega⟩, fun _ => rfl⟩
  · rw [if_neg h]
    exact ⟨fun h => by simp at h, fun k => absurd k.1 h⟩
def tagOf (key : Nat) (s : Bytes) : Nat := Hash.of (be8 key ++ s ++ be8 key)
def askTag (key : Nat) (n v : Bytes) (num : Nat) : Nat := tagOf key (be8 num ++ Wire.enc [n, v])

set_option maxHeartbeats 400000 in
theorem refAskFault (n v : Bytes) (w : World) (hn : n.length ≤ maxLen) (hv : v.length ≤ maxLen) (r : Int) (hr : askFault n v = r) :
    Calls Try.prog 11 #[.string (S n), .string (S v)] w fun e w' => e = .returned (.int .i64 r) ∧ w = w' := by
  have hG := fun w => Lib.hid (goodName n w hn _ rfl)
  unfold maxLen at hv
  unfold askFault at hr
  cases hnm : Bin.name n with
  | false =>
    rw [hnm] at hG hr
    rw [if_neg (by simp)] at hr
    subst hr
    clear hnm
    go_enter Try.func11, Try.ntmps11
    go_wp2_with fail
    refine (hG _).out.mono ?_
    rintro e w1 ⟨rfl, rfl⟩
    go_wp2
    go_ret
    exact ⟨rfl, rfl⟩
  | true =>
    rw [hnm] at hG hr
    rw [if_pos rfl] at hr
    by_cases h : 20 < v.length
    · rw [if_pos h] at hr
      have c1 : decide ((20 : Int) < (v.length : Int)) = true := decide_eq_true (by omega)
      subst hr
      clear hnm h
      go_enter Try.func11, Try.ntmps11
      go_wp2_with fail
      refine (hG _).out.mono ?_
      rintro e w1 ⟨rfl, rfl⟩
      go_wp2
      go_ret
      exact ⟨rfl, rfl⟩
    · rw [if_neg h] at hr
      have c1 : decide ((20 : Int) < (v.length : Int)) = false := decide_eq_false (by omega)
      subst hr
      clear hnm h
      go_enter Try.func11, Try.ntmps11
      go_wp2_with fail
      refine (hG _).out.mono ?_
      rintro e w1 ⟨rfl, rfl⟩
      go_wp2
      go_ret
      exact ⟨rfl, rfl⟩

set_option maxHeartbeats 400000 in
theorem refTag (key : Nat) (s : Bytes) (w : World) (hk : key < 18446744073709551616) (hs : s.length ≤ 1000000) (x : Nat) (hx : tagOf key s = x) :
    Calls Try.prog 8 #[.int .u64 (key : Int), .string (S s)] w fun e w' => e = .returned (.int .u64 (x : Int)) ∧ Below w.heap.size w w' := by
  have hN := fun w => Lib.hid (refNum_any key w hk)
  have hl : (be8 key).length = 8 := by simp [be8]
  have hM := fun w => Lib.hid (refMark (be8 key ++ s ++ be8 key) w (by rw [List.length_append, List.length_append, hl]; unfold maxLen; omega))
  rw [tagOf] at hx
  rw [hx] at hM
  generalize be8 key = b at *
  clear hx hk
  go_enter Try.func8, Try.ntmps8
  go_wp2_with fail
  refine (hN _).out.mono ?_
  rintro e w1 ⟨rfl, hb1⟩
  go_wp2_with fail
  refine (hN _).out.mono ?_
  rintro e w2 ⟨rfl, hb2⟩
  go_wp2_with fail
  refine Calls.mono (P := Try.prog) (by simpa using (hM w2).out) ?_
  rintro e w3 ⟨rfl, rfl⟩
  go_wp2
  go_ret
  exact ⟨rfl, below_chain hb1 hb2⟩

set_option maxHeartbeats 400000 in
theorem refAskTag (key num : Nat) (n v : Bytes) (w : World) (hk : key < 18446744073709551616) (hnum : num < 18446744073709551616) (hnv : n.length + v.length ≤ 596) (x : Nat) (hx : askTag key n v num = x) :
    Calls Try.prog 12 #[.int .u64 (key : Int), .string (S n), .string (S v), .int .u64 (num : Int)] w fun e w' => e = .returned (.int .u64 (x : Int)) ∧ Below w.heap.size w w' := by
  have hN := fun w => Lib.hid (refNum_any num w hnum)
  have hl : (be8 num).length = 8 := by simp [be8]
  have hel : (Wire.enc [n, v]).length ≤ 600 := by rw [Wire.enc_length]; simp [Wire.encLen]; omega
  have hP := fun w g hg t => Lib.hid (parts_two n v w g hg hnv t)
  have hT := fun w => Lib.hid (refTag key (be8 num ++ Wire.enc [n, v]) w hk (by rw [List.length_append, hl]; omega) x hx)
  generalize be8 num = b at *
  generalize Wire.enc [n, v] = z at *
  clear hx hk hnum
  go_enter Try.func12, Try.ntmps12
  go_wp2_with fail
  refine (hP _ _ rfl _).out.mono ?_
  rintro e w1 ⟨rfl, hb1⟩
  go_wp2_with fail
  refine (hN _).out.mono ?_
  rintro e w2 ⟨rfl, hb2⟩
  go_wp2_with fail
  refine (hT _).out.mono ?_
  rintro e w3 ⟨rfl, hb3⟩
  go_wp2
  go_ret
  exact ⟨rfl, below_chain (below_chain (below_chain ((Below.refl _ _).alloc (Nat.le_refl _) _) hb1) hb2) hb3⟩
end Go.Proofs.Ytgmanaciadfkdaa
