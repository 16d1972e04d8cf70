/- package tag: Of returns the tag of a string, Right whether a number is it; tagged returns the string that a request's tag is for; Ask returns a request with its tag, Holds whether a request has the right one. They write nothing that was there. -/
import Derived.Test.YtgmanaciadfkdaaRefAsk
import Derived.Test.YtgmanaciadfkdaaPath
import Derived.Test.YtgmanaciadfkdaaFits
import Derived.Test.YtgmanaciadfkdaaBoxes
namespace Go.Proofs.Ytgmanaciadfkdaa
set_option maxRecDepth 100000
open Go.RowKit

set_option maxHeartbeats 400000 in
theorem tagOf_is (key : Nat) (s : Bytes) (w : World) (hk : key < 18446744073709551616) (hs : s.length ≤ 1000000) (x : Nat) (hx : tagOf key s = x) :
    Calls Try.prog 7 #[.int .u64 (key : Int), .string (S s)] w fun e w' => e = .returned (.int .u64 (x : Int)) ∧ Below w.heap.size w w' := by
  have hN := fun w => Lib.hid (num_any key w hk)
  have hl : (be8 key).length = 8 := rfl
  have hM := fun w => Lib.hid (markOf (be8 key ++ s ++ be8 key) w (by rw [List.length_append, List.length_append, hl]; unfold maxLen; omega))
  rw [tagOf] at hx
  rw [hx] at hM
  generalize be8 key = b at *
  clear hx hk
  go_enter Try.func7, Try.ntmps7
  go_wp2_with fail
  refine (hN _).out.mono ?_
  rintro e w1 ⟨rfl, hb1⟩
  go_wp2_with fail
  refine Calls.mono (P := Try.prog) (by simpa using (hM w1).out) ?_
  rintro e w2 ⟨rfl, m, rfl⟩
  go_wp2
  go_ret
  exact ⟨rfl, below_drewN hb1 _⟩

set_option maxHeartbeats 400000 in
theorem tagRight (key : Nat) (s : Bytes) (t : Nat) (w : World) (hk : key < 18446744073709551616) (hs : s.length ≤ 1000000) (b : Bool) (hb : (tagOf key s == t) = b) :
    Calls Try.prog 9 #[.int .u64 (key : Int), .string (S s), .int .u64 (t : Int)] w fun e w' => e = .returned (.bool b) ∧ Below w.heap.size w w' := by
  have hT := fun w => Lib.hid (tagOf_is key s w hk hs _ rfl)
  generalize tagOf key s = x at *
  have HE : Hid (((x : Int) == (t : Int)) = b) := by
    show ((x : Int) == (t : Int)) = b
    rw [← hb, Bool.eq_iff_iff, beq_iff_eq, beq_iff_eq]
    exact ⟨fun h => by omega, fun h => by omega⟩
  clear hk hs hb
  go_enter Try.func9, Try.ntmps9
  go_wp2_with fail
  refine (hT _).out.mono ?_
  rintro e w1 ⟨rfl, hb1⟩
  go_wp2
  go_ret
  exact ⟨by rw [← HE.out]; rfl, hb1⟩

set_option maxHeartbeats 400000 in
theorem tagged_no (n v : Bytes) (num : Nat) (w : World) (hn : n.length ≤ maxLen) (hv : v.length ≤ maxLen) (r : Int) (hr : askFault n v = r) (h0 : r ≠ 0) :
    Calls Try.prog 16 #[.string (S n), .string (S v), .int .u64 (num : Int)] w fun e w' => e = .returned (.tuple #[.string ⟨#[]⟩, .int .i64 r]) ∧ w = w' := by
  have hG := fun w => Lib.hid (pathName n w hn _ rfl)
  unfold maxLen at hv
  unfold askFault at hr
  cases hnm : Bin.name n with
  | false =>
    rw [hnm] at hG hr
    rw [if_neg (by simp)] at hr
    subst hr
    clear hnm h0
    go_enter Try.func16, Try.ntmps16
    go_wp2_with fail
    refine (hG _).out.mono ?_
    rintro e w1 ⟨rfl, rfl⟩
    go_wp2
    go_ret2
    exact ⟨rfl, rfl⟩
  | true =>
    rw [hnm] at hG hr
    rw [if_pos rfl] at hr
    by_cases h : 20 < v.length
    · rw [if_pos h] at hr
      have c1 : decide ((20 : Int) < (v.length : Int)) = true := decide_eq_true (by omega)
      subst hr
      clear hnm h h0
      go_enter Try.func16, Try.ntmps16
      go_wp2_with fail
      refine (hG _).out.mono ?_
      rintro e w1 ⟨rfl, rfl⟩
      go_wp2
      go_ret2
      exact ⟨rfl, rfl⟩
    · rw [if_neg h] at hr
      exact absurd hr.symm h0

/-- The string that a request's tag is for. -/
def asked (n v : Bytes) (num : Nat) : Bytes := be8 num ++ Wire.enc [n, v]
theorem asked_le {n v : Bytes} (num : Nat) (h : askFault n v = 0) : (asked n v num).length ≤ 1000000 := by
  obtain ⟨h1, h2⟩ := (askFault_ok n v).1 h
  have := Bin.name_len h1
  have hl : (be8 num).length = 8 := rfl
  rw [asked, List.length_append, hl, Wire.enc_length]
  simp [Wire.encLen]
  omega

set_option maxHeartbeats 400000 in
theorem tagged_yes (n v : Bytes) (num : Nat) (w : World) (hnum : num < 18446744073709551616) (h : askFault n v = 0) :
    Calls Try.prog 16 #[.string (S n), .string (S v), .int .u64 (num : Int)] w fun e w' => e = .returned (.tuple #[.string (S (asked n v num)), .int .i64 0]) ∧ Below w.heap.size w w' := by
  obtain ⟨hnm, hv⟩ := (askFault_ok n v).1 h
  have hnl := Bin.name_len hnm
  have hG := fun w => Lib.hid (pathName n w (by unfold maxLen; omega) true hnm)
  have hP := fun w g hg t => Lib.hid (put_two n v w g hg (by omega) t)
  have hN := fun w => Lib.hid (num_any num w hnum)
  have hel : (Wire.enc [n, v]).length ≤ 600 := by rw [Wire.enc_length]; simp [Wire.encLen]; omega
  have hl : (be8 num).length = 8 := rfl
  have c1 : decide ((20 : Int) < (v.length : Int)) = false := decide_eq_false (by omega)
  unfold asked
  generalize be8 num = b at *
  generalize Wire.enc [n, v] = z at *
  clear h hnm hnum hnl hv
  go_enter Try.func16, Try.ntmps16
  go_wp2_with fail
  refine (hG _).out.mono ?_
  rintro e w1 ⟨rfl, rfl⟩
  go_wp2_with fail
  refine (hP _ _ rfl _).out.mono ?_
  rintro e w1 ⟨rfl, hb1⟩
  go_wp2_with fail
  refine (hN _).out.mono ?_
  rintro e w2 ⟨rfl, hb2⟩
  go_wp2
  go_ret2
  exact ⟨rfl, below_chain (below_chain ((Below.refl _ _).alloc (Nat.le_refl _) _) hb1) hb2⟩

set_option maxHeartbeats 1000000 in
theorem tagAsk_no (key : Nat) (n v : Bytes) (num : Nat) (w : World) (hn : n.length ≤ maxLen) (hv : v.length ≤ maxLen) (r : Int) (hr : askFault n v = r) (h0 : r ≠ 0) :
    Calls Try.prog 6 #[.int .u64 (key : Int), .string (S n), .string (S v), .int .u64 (num : Int)] w fun e w' => e = .returned (.tuple #[.agg #[.string ⟨#[]⟩, .string ⟨#[]⟩, .int .u64 0, .int .u64 0], .int .i64 r]) ∧ Below w.heap.size w w' := by
  have hT := fun w => Lib.hid (tagged_no n v num w hn hv r hr h0)
  have c1 : (r == 0) = false := beq_eq_false_iff_ne.2 h0
  have hz0 := Bx.new w _ rfl _ [.string ⟨#[]⟩, .string ⟨#[]⟩, .int .u64 0, .int .u64 0] 24 rfl
  clear hn hv hr h0
  go_enter Try.func6, Try.ntmps6
  go_wp2_with fail
  refine (hT _).out.mono ?_
  rintro e w1 ⟨rfl, hw⟩
  have hb1 : Below w.heap.size w w1 := by rw [← hw]; exact (Below.refl _ _).alloc (Nat.le_refl _) _
  have hz1 : Bx w1 w.heap.size [.string ⟨#[]⟩, .string ⟨#[]⟩, .int .u64 0, .int .u64 0] := by rw [← hw]; exact hz0
  clear hz0 hw hT
  obtain ⟨⟨z0, z1, z2, z3⟩, ⟨e0, e1, e2, e3⟩⟩ := hz1.get4
  have hz9 := hz1.set4 (.string ⟨#[]⟩) (.string ⟨#[]⟩) (.int .u64 0) (.int .u64 0)
  have hb9 := below_set4 hb1 (Nat.le_refl w.heap.size) (.string ⟨#[]⟩) (.string ⟨#[]⟩) (.int .u64 0) (.int .u64 0)
  clear hz1 hb1
  go_wp2
  generalize ((((w1.setCell ⟨w.heap.size, 0, none⟩ (.string ⟨#[]⟩)).setCell ⟨w.heap.size, 1, none⟩ (.string ⟨#[]⟩)).setCell ⟨w.heap.size, 2, none⟩ (.int .u64 0)).setCell ⟨w.heap.size, 3, none⟩ (.int .u64 0)) = w9 at *
  obtain ⟨⟨r0, r1, r2, r3⟩, _⟩ := hz9.get4
  refine bodyPost_ret (v := .tuple #[.agg #[.string ⟨#[]⟩, .string ⟨#[]⟩, .int .u64 0, .int .u64 0], .int .i64 r]) ?_ rfl ⟨rfl, hb9⟩
  rw [results_cell_tmp rfl]
  go_simp

set_option maxHeartbeats 1000000 in
theorem tagAsk_yes (key : Nat) (n v : Bytes) (num : Nat) (w : World) (hk : key < 18446744073709551616) (hnum : num < 18446744073709551616) (h : askFault n v = 0) (x : Nat) (hx : askTag key n v num = x) :
    Calls Try.prog 6 #[.int .u64 (key : Int), .string (S n), .string (S v), .int .u64 (num : Int)] w fun e w' => e = .returned (.tuple #[.agg #[.string (S n), .string (S v), .int .u64 (num : Int), .int .u64 (x : Int)], .int .i64 0]) ∧ Below w.heap.size w w' := by
  have hT := fun w => Lib.hid (tagged_yes n v num w hnum h)
  have hO := fun w => Lib.hid (tagOf_is key (asked n v num) w hk (asked_le num h) x hx)
  have hz0 := Bx.new w _ rfl _ [.string ⟨#[]⟩, .string ⟨#[]⟩, .int .u64 0, .int .u64 0] 24 rfl
  generalize asked n v num = s at *
  clear hx h hk hnum
  go_enter Try.func6, Try.ntmps6
  go_wp2_with fail
  refine (hT _).out.mono ?_
  rintro e w1 ⟨rfl, hb1⟩
  have hz1 := hz0.below hb1
  have hb01 : Below w.heap.size w w1 := below_chain ((Below.refl _ _).alloc (Nat.le_refl _) _) hb1
  clear hz0 hb1 hT
  go_wp2_with fail
  refine (hO _).out.mono ?_
  rintro e w2 ⟨rfl, hb2⟩
  have hz2 := hz1.below hb2
  have hb02 := below_chain hb01 hb2
  clear hz1 hb01 hb2 hO
  obtain ⟨⟨z0, z1, z2, z3⟩, ⟨e0, e1, e2, e3⟩⟩ := hz2.get4
  have hz9 := hz2.set4 (.string (S n)) (.string (S v)) (.int .u64 (num : Int)) (.int .u64 (x : Int))
  have hb9 := below_set4 hb02 (Nat.le_refl w.heap.size) (.string (S n)) (.string (S v)) (.int .u64 (num : Int)) (.int .u64 (x : Int))
  clear hz2 hb02
  go_wp2
  generalize ((((w2.setCell ⟨w.heap.size, 0, none⟩ (.string (S n))).setCell ⟨w.heap.size, 1, none⟩ (.string (S v))).setCell ⟨w.heap.size, 2, none⟩ (.int .u64 (num : Int))).setCell ⟨w.heap.size, 3, none⟩ (.int .u64 (x : Int))) = w9 at *
  obtain ⟨⟨r0, r1, r2, r3⟩, _⟩ := hz9.get4
  refine bodyPost_ret (v := .tuple #[.agg #[.string (S n), .string (S v), .int .u64 (num : Int), .int .u64 (x : Int)], .int .i64 0]) ?_ rfl ⟨rfl, hb9⟩
  rw [results_cell_tmp rfl]
  go_simp

/-- Whether a request has the right tag. -/
def holdsB (key : Nat) (n v : Bytes) (num t : Nat) : Bool := decide (askFault n v = 0) && askTag key n v num == t
set_option maxHeartbeats 1000000 in
theorem tagHolds (key : Nat) (n v : Bytes) (num t : Nat) (w : World) (hk : key < 18446744073709551616) (hn : n.length ≤ maxLen) (hv : v.length ≤ maxLen) (hnum : num < 18446744073709551616) (b : Bool) (hb : holdsB key n v num t = b) :
    Calls Try.prog 10 #[.int .u64 (key : Int), .agg #[.string (S n), .string (S v), .int .u64 (num : Int), .int .u64 (t : Int)]] w fun e w' => e = .returned (.bool b) ∧ Below w.heap.size w w' := by
  have hz0 := Bx.new w _ rfl _ [.string (S n), .string (S v), .int .u64 (num : Int), .int .u64 (t : Int)] 24 rfl
  obtain ⟨⟨z0, z1, z2, z3⟩, _⟩ := hz0.get4
  by_cases h : askFault n v = 0
  · have hT := fun w => Lib.hid (tagged_yes n v num w hnum h)
    have hR := fun w => Lib.hid (tagRight key (asked n v num) t w hk (asked_le num h) b (by rw [← hb, holdsB, decide_eq_true h, Bool.true_and]; rfl))
    generalize asked n v num = s at *
    clear hb h hk hn hv hnum
    go_enter Try.func10, Try.ntmps10
    go_wp2_with fail
    refine (hT _).out.mono ?_
    rintro e w1 ⟨rfl, hb1⟩
    have hz1 := hz0.below hb1
    have hb01 : Below w.heap.size w w1 := below_chain ((Below.refl _ _).alloc (Nat.le_refl _) _) hb1
    clear z0 z1 z2 z3 hz0
    obtain ⟨⟨z0, z1, z2, z3⟩, _⟩ := hz1.get4
    go_wp2_with fail
    refine (hR _).out.mono ?_
    rintro e w2 ⟨rfl, hb2⟩
    go_wp2
    go_ret
    exact ⟨rfl, below_chain hb01 hb2⟩
  · have hT := fun w => Lib.hid (tagged_no n v num w hn hv _ rfl h)
    have c1 : (askFault n v == 0) = false := beq_eq_false_iff_ne.2 h
    obtain rfl : b = false := by rw [← hb, holdsB, decide_eq_false h, Bool.false_and]
    generalize askFault n v = r at *
    clear hb h hk hn hv hnum
    go_enter Try.func10, Try.ntmps10
    go_wp2_with fail
    refine (hT _).out.mono ?_
    rintro e w1 ⟨rfl, hw⟩
    have hb1 : Below w.heap.size w w1 := by rw [← hw]; exact (Below.refl _ _).alloc (Nat.le_refl _) _
    go_wp2
    go_ret
    exact ⟨rfl, hb1⟩
end Go.Proofs.Ytgmanaciadfkdaa
