/- The law MarkTells returns true: at whatever arguments, every function of package mark returns what the reference returns (the strings with at most 2000 bytes); nothing that was there is written. No conditions. -/
import Derived.Test.YtaikahaohadaeaaLaw
import Derived.Test.YtaikahaohadaeaaAlike
import Derived.Test.YtaikahaohadaeaaSaid
import Derived.Test.YtaikahaohadaeaaRefMark
namespace Go.Proofs.Ytaikahaohadaeaa
open Go.ChangeShapes Go.WideShapes Go.ChangeAt Go.RowKit

/-- What Join gives, under letters. -/
def JoinGives (a b : Nat) (n : Int) (m e : Int) : Prop :=
  ∀ w : World, Calls Try.prog 7 #[.int .u64 (a : Int), .int .u64 (b : Int), .int .i64 n] w fun e' w' => e' = .returned (.tuple #[.int .u64 m, .int .i64 e]) ∧ w = w'
theorem join_any (a b : Nat) (n : Int) : ∃ m e, JoinGives a b n m e := by
  by_cases h : 2305843009213693951 ≤ a ∨ 2305843009213693951 ≤ b ∨ n < 0 ∨ 600 < n
  · exact ⟨0, 4, fun w => markJoin_no a b n w h⟩
  · obtain ⟨k, rfl⟩ := Int.eq_ofNat_of_zero_le (a := n) (by omega)
    exact ⟨_, 0, fun w => markJoin_yes a b k w (by omega) (by omega) (by omega)⟩

set_option maxRecDepth 100000 in
set_option maxHeartbeats 400000 in
theorem markTells_long (s t : Bytes) (k : UInt8) (a b : Nat) (n : Int) (w : World) (h : 2000 < s.length ∨ 2000 < t.length) :
    Calls Try.prog 3 #[.string (S s), .string (S t), .int .u8 (k.toNat : Int), .int .u64 (a : Int), .int .u64 (b : Int), .int .i64 n] w fun e w' => e = .returned (.bool true) ∧ Below w.heap.size w w' := by
  obtain ⟨m, e, hJ⟩ := join_any a b n
  have HJ := Lib.hid hJ
  clear hJ
  by_cases h1 : 2000 < s.length
  · have c1 : decide ((2000 : Int) < (s.length : Int)) = true := decide_eq_true (by omega)
    clear h h1
    go_enter Try.func3, Try.ntmps3
    go_wp2_with fail
    refine (HJ.out _).mono ?_
    rintro e' w1 ⟨rfl, rfl⟩
    go_wp2
    go_ret
    exact ⟨rfl, Below.refl _ _⟩
  · have c1 : decide ((2000 : Int) < (s.length : Int)) = false := decide_eq_false (by omega)
    have c2 : decide ((2000 : Int) < (t.length : Int)) = true := decide_eq_true (by omega)
    clear h h1
    go_enter Try.func3, Try.ntmps3
    go_wp2_with fail
    refine (HJ.out _).mono ?_
    rintro e' w1 ⟨rfl, rfl⟩
    go_wp2
    go_ret
    exact ⟨rfl, Below.refl _ _⟩

/-- What the functions of the middle part give, under letters: x, y the hashes of s and t, c whether they collide, q the seventeen bytes, z their hash. -/
structure Mid (s t : Bytes) (k : UInt8) (a b : Nat) (x y : Nat) (c : Bool) (q : Bytes) (z : Nat) : Prop where
  ofS : ∀ w : World, Calls Try.prog 8 #[.string (S s)] w fun e w' => e = .returned (.int .u64 (x : Int)) ∧ ∃ m, w' = w.drewN m
  markS : ∀ w : World, Calls Try.prog 9 #[.string (S s)] w fun e w' => e = .returned (.int .u64 (x : Int)) ∧ w = w'
  markT : ∀ w : World, Calls Try.prog 9 #[.string (S t)] w fun e w' => e = .returned (.int .u64 (y : Int)) ∧ w = w'
  alike : ∀ w : World, Calls Try.prog 10 #[.string (S s), .string (S t)] w fun e w' => e = .returned (.bool c) ∧ ∃ m, w' = w.drewN m
  said : ∀ w : World, Calls Try.prog 11 #[.int .u8 (k.toNat : Int), .int .u64 (a : Int), .int .u64 (b : Int)] w fun e w' => e = .returned (.string (S q)) ∧ Below w.heap.size w w'
  refTwo : ∀ w : World, Calls Try.prog 12 #[.int .u8 (k.toNat : Int), .int .u64 (a : Int), .int .u64 (b : Int)] w fun e w' => e = .returned (.string (S q)) ∧ Below w.heap.size w w'
  two : ∀ w : World, Calls Try.prog 13 #[.int .u8 (k.toNat : Int), .int .u64 (a : Int), .int .u64 (b : Int)] w fun e w' => e = .returned (.int .u64 (z : Int)) ∧ Below w.heap.size w w'
  markQ : ∀ w : World, Calls Try.prog 9 #[.string (S q)] w fun e w' => e = .returned (.int .u64 (z : Int)) ∧ w = w'
theorem mid (s t : Bytes) (k : UInt8) (a b : Nat) (hs : s.length ≤ 2000) (ht : t.length ≤ 2000) (ha : a < 18446744073709551616) (hb : b < 18446744073709551616) :
    Mid s t k a b (Hash.of s) (Hash.of t) (alikeB s t) (said k a b) (Hash.of (said k a b)) := by
  have lng : ∀ l : Bytes, l.length ≤ 2000 → l.length ≤ maxLen := fun l hl => by show _ ≤ (2 : Nat) ^ 63 - 1; omega
  have hq : (said k a b).length ≤ maxLen := lng _ (by show 17 ≤ 2000; omega)
  exact ⟨fun w => markOf s w (lng _ hs), fun w => refMark s w (lng _ hs), fun w => refMark t w (lng _ ht), fun w => markAlike s t w (lng _ hs) (lng _ ht) _ rfl,
    fun w => markSaid k a b w ha hb, fun w => refTwo k a b w ha hb, fun w => markTwo k a b w ha hb, fun w => refMark _ w hq⟩

/-- The three ways through the middle part. -/
def Way (s t : Bytes) (x y : Nat) (c : Bool) : Prop := (s = t ∧ c = false) ∨ ((s == t) = false ∧ c = true ∧ ((x : Int) == (y : Int)) = true) ∨ ((s == t) = false ∧ c = false ∧ ((x : Int) == (y : Int)) = false)
theorem way (s t : Bytes) : Way s t (Hash.of s) (Hash.of t) (alikeB s t) := by
  by_cases h : s = t
  · exact .inl ⟨h, by simp [alikeB, h]⟩
  · by_cases h2 : Hash.of s = Hash.of t
    · exact .inr (.inl ⟨by simp [h], by simp [alikeB, h, h2], by simp [h2]⟩)
    · exact .inr (.inr ⟨by simp [h], by simp [alikeB, h2], by simp only [beq_eq_false_iff_ne, ne_eq]; omega⟩)

theorem fin_val (m t b p : Nat) (hm : m < 2305843009213693951) (hp : p < 2305843009213693951) (ht : t < 2305843009213693951) (hb : b < 2305843009213693951) (e : m = (t + b + (2305843009213693951 - p)) % 2305843009213693951) :
    ((IntKind.u64.wrap ((m : Int) + (p : Int))).tmod 2305843009213693951 == (IntKind.u64.wrap ((t : Int) + (b : Int))).tmod 2305843009213693951) = true := by
  simp only [IntKind.wrap_u64, beq_iff_eq]
  rw [Int.tmod_eq_emod_of_nonneg (by omega), Int.tmod_eq_emod_of_nonneg (by omega)]
  omega

set_option maxRecDepth 100000 in
set_option maxHeartbeats 1000000 in
theorem markTells_no0 (s t : Bytes) (k : UInt8) (a b : Nat) (n : Int) (w : World) (x y : Nat) (c : Bool) (q : Bytes) (z : Nat) (H : Hid (Mid s t k a b x y c q z)) (HW : Hid (Way s t x y c)) (HJ : Hid (JoinGives a b n 0 4))
    (l1 : decide ((2000 : Int) < (s.length : Int)) = false) (l2 : decide ((2000 : Int) < (t.length : Int)) = false) (c1 : decide ((2305843009213693951 : Int) ≤ (a : Int)) = true) :
    Calls Try.prog 3 #[.string (S s), .string (S t), .int .u8 (k.toNat : Int), .int .u64 (a : Int), .int .u64 (b : Int), .int .i64 n] w fun e w' => e = .returned (.bool true) ∧ Below w.heap.size w w' := by
  rcases HW.out with ⟨rfl, rfl⟩ | ⟨hne, rfl, hxy⟩ | ⟨hne, rfl, hxy⟩
  · clear HW
    go_enter Try.func3, Try.ntmps3
    go_wp2_with fail
    refine (HJ.out _).mono ?_
    rintro e' w1 ⟨rfl, rfl⟩
    go_wp2_with fail
    refine (H.out.ofS _).mono ?_
    rintro e' w2 ⟨rfl, m2, rfl⟩
    go_wp2_with fail
    refine (H.out.markS _).mono ?_
    rintro e' w3 ⟨rfl, rfl⟩
    go_wp2_with fail
    refine (H.out.alike _).mono ?_
    rintro e' w4 ⟨rfl, m4, rfl⟩
    go_wp2_with fail
    refine (H.out.said _).mono ?_
    rintro e' w7 ⟨rfl, hb7⟩
    go_wp2_with fail
    refine (H.out.refTwo _).mono ?_
    rintro e' w8 ⟨rfl, hb8⟩
    go_wp2_with fail
    refine (H.out.two _).mono ?_
    rintro e' w9 ⟨rfl, hb9⟩
    go_wp2_with fail
    refine (H.out.refTwo _).mono ?_
    rintro e' w10 ⟨rfl, hb10⟩
    go_wp2_with fail
    refine (H.out.markQ _).mono ?_
    rintro e' w11 ⟨rfl, rfl⟩
    have hb11 := below_chain (below_chain (below_chain (below_chain (below_of_drewN _ w (m2 + m4)) hb7) hb8) hb9) hb10
    clear hb7 hb8 hb9 hb10
    go_wp2
    go_ret
    exact ⟨rfl, hb11⟩
  · clear HW
    go_enter Try.func3, Try.ntmps3
    go_wp2_with fail
    refine (HJ.out _).mono ?_
    rintro e' w1 ⟨rfl, rfl⟩
    go_wp2_with fail
    refine (H.out.ofS _).mono ?_
    rintro e' w2 ⟨rfl, m2, rfl⟩
    go_wp2_with fail
    refine (H.out.markS _).mono ?_
    rintro e' w3 ⟨rfl, rfl⟩
    go_wp2_with fail
    refine (H.out.alike _).mono ?_
    rintro e' w4 ⟨rfl, m4, rfl⟩
    go_wp2_with fail
    refine (H.out.markS _).mono ?_
    rintro e' w5 ⟨rfl, rfl⟩
    go_wp2_with fail
    refine (H.out.markT _).mono ?_
    rintro e' w6 ⟨rfl, rfl⟩
    go_wp2_with fail
    refine (H.out.said _).mono ?_
    rintro e' w7 ⟨rfl, hb7⟩
    go_wp2_with fail
    refine (H.out.refTwo _).mono ?_
    rintro e' w8 ⟨rfl, hb8⟩
    go_wp2_with fail
    refine (H.out.two _).mono ?_
    rintro e' w9 ⟨rfl, hb9⟩
    go_wp2_with fail
    refine (H.out.refTwo _).mono ?_
    rintro e' w10 ⟨rfl, hb10⟩
    go_wp2_with fail
    refine (H.out.markQ _).mono ?_
    rintro e' w11 ⟨rfl, rfl⟩
    have hb11 := below_chain (below_chain (below_chain (below_chain (below_of_drewN _ w (m2 + m4)) hb7) hb8) hb9) hb10
    clear hb7 hb8 hb9 hb10
    go_wp2
    go_ret
    exact ⟨rfl, hb11⟩
  · clear HW
    go_enter Try.func3, Try.ntmps3
    go_wp2_with fail
    refine (HJ.out _).mono ?_
    rintro e' w1 ⟨rfl, rfl⟩
    go_wp2_with fail
    refine (H.out.ofS _).mono ?_
    rintro e' w2 ⟨rfl, m2, rfl⟩
    go_wp2_with fail
    refine (H.out.markS _).mono ?_
    rintro e' w3 ⟨rfl, rfl⟩
    go_wp2_with fail
    refine (H.out.alike _).mono ?_
    rintro e' w4 ⟨rfl, m4, rfl⟩
    go_wp2_with fail
    refine (H.out.markS _).mono ?_
    rintro e' w5 ⟨rfl, rfl⟩
    go_wp2_with fail
    refine (H.out.markT _).mono ?_
    rintro e' w6 ⟨rfl, rfl⟩
    go_wp2_with fail
    refine (H.out.said _).mono ?_
    rintro e' w7 ⟨rfl, hb7⟩
    go_wp2_with fail
    refine (H.out.refTwo _).mono ?_
    rintro e' w8 ⟨rfl, hb8⟩
    go_wp2_with fail
    refine (H.out.two _).mono ?_
    rintro e' w9 ⟨rfl, hb9⟩
    go_wp2_with fail
    refine (H.out.refTwo _).mono ?_
    rintro e' w10 ⟨rfl, hb10⟩
    go_wp2_with fail
    refine (H.out.markQ _).mono ?_
    rintro e' w11 ⟨rfl, rfl⟩
    have hb11 := below_chain (below_chain (below_chain (below_chain (below_of_drewN _ w (m2 + m4)) hb7) hb8) hb9) hb10
    clear hb7 hb8 hb9 hb10
    go_wp2
    go_ret
    exact ⟨rfl, hb11⟩

set_option maxRecDepth 100000 in
set_option maxHeartbeats 1000000 in
theorem markTells_no1 (s t : Bytes) (k : UInt8) (a b : Nat) (n : Int) (w : World) (x y : Nat) (c : Bool) (q : Bytes) (z : Nat) (H : Hid (Mid s t k a b x y c q z)) (HW : Hid (Way s t x y c)) (HJ : Hid (JoinGives a b n 0 4))
    (l1 : decide ((2000 : Int) < (s.length : Int)) = false) (l2 : decide ((2000 : Int) < (t.length : Int)) = false) (c1 : decide ((2305843009213693951 : Int) ≤ (a : Int)) = false) (c2 : decide ((2305843009213693951 : Int) ≤ (b : Int)) = true) :
    Calls Try.prog 3 #[.string (S s), .string (S t), .int .u8 (k.toNat : Int), .int .u64 (a : Int), .int .u64 (b : Int), .int .i64 n] w fun e w' => e = .returned (.bool true) ∧ Below w.heap.size w w' := by
  rcases HW.out with ⟨rfl, rfl⟩ | ⟨hne, rfl, hxy⟩ | ⟨hne, rfl, hxy⟩
  · clear HW
    go_enter Try.func3, Try.ntmps3
    go_wp2_with fail
    refine (HJ.out _).mono ?_
    rintro e' w1 ⟨rfl, rfl⟩
    go_wp2_with fail
    refine (H.out.ofS _).mono ?_
    rintro e' w2 ⟨rfl, m2, rfl⟩
    go_wp2_with fail
    refine (H.out.markS _).mono ?_
    rintro e' w3 ⟨rfl, rfl⟩
    go_wp2_with fail
    refine (H.out.alike _).mono ?_
    rintro e' w4 ⟨rfl, m4, rfl⟩
    go_wp2_with fail
    refine (H.out.said _).mono ?_
    rintro e' w7 ⟨rfl, hb7⟩
    go_wp2_with fail
    refine (H.out.refTwo _).mono ?_
    rintro e' w8 ⟨rfl, hb8⟩
    go_wp2_with fail
    refine (H.out.two _).mono ?_
    rintro e' w9 ⟨rfl, hb9⟩
    go_wp2_with fail
    refine (H.out.refTwo _).mono ?_
    rintro e' w10 ⟨rfl, hb10⟩
    go_wp2_with fail
    refine (H.out.markQ _).mono ?_
    rintro e' w11 ⟨rfl, rfl⟩
    have hb11 := below_chain (below_chain (below_chain (below_chain (below_of_drewN _ w (m2 + m4)) hb7) hb8) hb9) hb10
    clear hb7 hb8 hb9 hb10
    go_wp2
    go_ret
    exact ⟨rfl, hb11⟩
  · clear HW
    go_enter Try.func3, Try.ntmps3
    go_wp2_with fail
    refine (HJ.out _).mono ?_
    rintro e' w1 ⟨rfl, rfl⟩
    go_wp2_with fail
    refine (H.out.ofS _).mono ?_
    rintro e' w2 ⟨rfl, m2, rfl⟩
    go_wp2_with fail
    refine (H.out.markS _).mono ?_
    rintro e' w3 ⟨rfl, rfl⟩
    go_wp2_with fail
    refine (H.out.alike _).mono ?_
    rintro e' w4 ⟨rfl, m4, rfl⟩
    go_wp2_with fail
    refine (H.out.markS _).mono ?_
    rintro e' w5 ⟨rfl, rfl⟩
    go_wp2_with fail
    refine (H.out.markT _).mono ?_
    rintro e' w6 ⟨rfl, rfl⟩
    go_wp2_with fail
    refine (H.out.said _).mono ?_
    rintro e' w7 ⟨rfl, hb7⟩
    go_wp2_with fail
    refine (H.out.refTwo _).mono ?_
    rintro e' w8 ⟨rfl, hb8⟩
    go_wp2_with fail
    refine (H.out.two _).mono ?_
    rintro e' w9 ⟨rfl, hb9⟩
    go_wp2_with fail
    refine (H.out.refTwo _).mono ?_
    rintro e' w10 ⟨rfl, hb10⟩
    go_wp2_with fail
    refine (H.out.markQ _).mono ?_
    rintro e' w11 ⟨rfl, rfl⟩
    have hb11 := below_chain (below_chain (below_chain (below_chain (below_of_drewN _ w (m2 + m4)) hb7) hb8) hb9) hb10
    clear hb7 hb8 hb9 hb10
    go_wp2
    go_ret
    exact ⟨rfl, hb11⟩
  · clear HW
    go_enter Try.func3, Try.ntmps3
    go_wp2_with fail
    refine (HJ.out _).mono ?_
    rintro e' w1 ⟨rfl, rfl⟩
    go_wp2_with fail
    refine (H.out.ofS _).mono ?_
    rintro e' w2 ⟨rfl, m2, rfl⟩
    go_wp2_with fail
    refine (H.out.markS _).mono ?_
    rintro e' w3 ⟨rfl, rfl⟩
    go_wp2_with fail
    refine (H.out.alike _).mono ?_
    rintro e' w4 ⟨rfl, m4, rfl⟩
    go_wp2_with fail
    refine (H.out.markS _).mono ?_
    rintro e' w5 ⟨rfl, rfl⟩
    go_wp2_with fail
    refine (H.out.markT _).mono ?_
    rintro e' w6 ⟨rfl, rfl⟩
    go_wp2_with fail
    refine (H.out.said _).mono ?_
    rintro e' w7 ⟨rfl, hb7⟩
    go_wp2_with fail
    refine (H.out.refTwo _).mono ?_
    rintro e' w8 ⟨rfl, hb8⟩
    go_wp2_with fail
    refine (H.out.two _).mono ?_
    rintro e' w9 ⟨rfl, hb9⟩
    go_wp2_with fail
    refine (H.out.refTwo _).mono ?_
    rintro e' w10 ⟨rfl, hb10⟩
    go_wp2_with fail
    refine (H.out.markQ _).mono ?_
    rintro e' w11 ⟨rfl, rfl⟩
    have hb11 := below_chain (below_chain (below_chain (below_chain (below_of_drewN _ w (m2 + m4)) hb7) hb8) hb9) hb10
    clear hb7 hb8 hb9 hb10
    go_wp2
    go_ret
    exact ⟨rfl, hb11⟩

set_option maxRecDepth 100000 in
set_option maxHeartbeats 1000000 in
theorem markTells_no2 (s t : Bytes) (k : UInt8) (a b : Nat) (n : Int) (w : World) (x y : Nat) (c : Bool) (q : Bytes) (z : Nat) (H : Hid (Mid s t k a b x y c q z)) (HW : Hid (Way s t x y c)) (HJ : Hid (JoinGives a b n 0 4))
    (l1 : decide ((2000 : Int) < (s.length : Int)) = false) (l2 : decide ((2000 : Int) < (t.length : Int)) = false) (c1 : decide ((2305843009213693951 : Int) ≤ (a : Int)) = false) (c2 : decide ((2305843009213693951 : Int) ≤ (b : Int)) = false) (c3 : decide (n < 0) = true) :
    Calls Try.prog 3 #[.string (S s), .string (S t), .int .u8 (k.toNat : Int), .int .u64 (a : Int), .int .u64 (b : Int), .int .i64 n] w fun e w' => e = .returned (.bool true) ∧ Below w.heap.size w w' := by
  rcases HW.out with ⟨rfl, rfl⟩ | ⟨hne, rfl, hxy⟩ | ⟨hne, rfl, hxy⟩
  · clear HW
    go_enter Try.func3, Try.ntmps3
    go_wp2_with fail
    refine (HJ.out _).mono ?_
    rintro e' w1 ⟨rfl, rfl⟩
    go_wp2_with fail
    refine (H.out.ofS _).mono ?_
    rintro e' w2 ⟨rfl, m2, rfl⟩
    go_wp2_with fail
    refine (H.out.markS _).mono ?_
    rintro e' w3 ⟨rfl, rfl⟩
    go_wp2_with fail
    refine (H.out.alike _).mono ?_
    rintro e' w4 ⟨rfl, m4, rfl⟩
    go_wp2_with fail
    refine (H.out.said _).mono ?_
    rintro e' w7 ⟨rfl, hb7⟩
    go_wp2_with fail
    refine (H.out.refTwo _).mono ?_
    rintro e' w8 ⟨rfl, hb8⟩
    go_wp2_with fail
    refine (H.out.two _).mono ?_
    rintro e' w9 ⟨rfl, hb9⟩
    go_wp2_with fail
    refine (H.out.refTwo _).mono ?_
    rintro e' w10 ⟨rfl, hb10⟩
    go_wp2_with fail
    refine (H.out.markQ _).mono ?_
    rintro e' w11 ⟨rfl, rfl⟩
    have hb11 := below_chain (below_chain (below_chain (below_chain (below_of_drewN _ w (m2 + m4)) hb7) hb8) hb9) hb10
    clear hb7 hb8 hb9 hb10
    go_wp2
    go_ret
    exact ⟨rfl, hb11⟩
  · clear HW
    go_enter Try.func3, Try.ntmps3
    go_wp2_with fail
    refine (HJ.out _).mono ?_
    rintro e' w1 ⟨rfl, rfl⟩
    go_wp2_with fail
    refine (H.out.ofS _).mono ?_
    rintro e' w2 ⟨rfl, m2, rfl⟩
    go_wp2_with fail
    refine (H.out.markS _).mono ?_
    rintro e' w3 ⟨rfl, rfl⟩
    go_wp2_with fail
    refine (H.out.alike _).mono ?_
    rintro e' w4 ⟨rfl, m4, rfl⟩
    go_wp2_with fail
    refine (H.out.markS _).mono ?_
    rintro e' w5 ⟨rfl, rfl⟩
    go_wp2_with fail
    refine (H.out.markT _).mono ?_
    rintro e' w6 ⟨rfl, rfl⟩
    go_wp2_with fail
    refine (H.out.said _).mono ?_
    rintro e' w7 ⟨rfl, hb7⟩
    go_wp2_with fail
    refine (H.out.refTwo _).mono ?_
    rintro e' w8 ⟨rfl, hb8⟩
    go_wp2_with fail
    refine (H.out.two _).mono ?_
    rintro e' w9 ⟨rfl, hb9⟩
    go_wp2_with fail
    refine (H.out.refTwo _).mono ?_
    rintro e' w10 ⟨rfl, hb10⟩
    go_wp2_with fail
    refine (H.out.markQ _).mono ?_
    rintro e' w11 ⟨rfl, rfl⟩
    have hb11 := below_chain (below_chain (below_chain (below_chain (below_of_drewN _ w (m2 + m4)) hb7) hb8) hb9) hb10
    clear hb7 hb8 hb9 hb10
    go_wp2
    go_ret
    exact ⟨rfl, hb11⟩
  · clear HW
    go_enter Try.func3, Try.ntmps3
    go_wp2_with fail
    refine (HJ.out _).mono ?_
    rintro e' w1 ⟨rfl, rfl⟩
    go_wp2_with fail
    refine (H.out.ofS _).mono ?_
    rintro e' w2 ⟨rfl, m2, rfl⟩
    go_wp2_with fail
    refine (H.out.markS _).mono ?_
    rintro e' w3 ⟨rfl, rfl⟩
    go_wp2_with fail
    refine (H.out.alike _).mono ?_
    rintro e' w4 ⟨rfl, m4, rfl⟩
    go_wp2_with fail
    refine (H.out.markS _).mono ?_
    rintro e' w5 ⟨rfl, rfl⟩
    go_wp2_with fail
    refine (H.out.markT _).mono ?_
    rintro e' w6 ⟨rfl, rfl⟩
    go_wp2_with fail
    refine (H.out.said _).mono ?_
    rintro e' w7 ⟨rfl, hb7⟩
    go_wp2_with fail
    refine (H.out.refTwo _).mono ?_
    rintro e' w8 ⟨rfl, hb8⟩
    go_wp2_with fail
    refine (H.out.two _).mono ?_
    rintro e' w9 ⟨rfl, hb9⟩
    go_wp2_with fail
    refine (H.out.refTwo _).mono ?_
    rintro e' w10 ⟨rfl, hb10⟩
    go_wp2_with fail
    refine (H.out.markQ _).mono ?_
    rintro e' w11 ⟨rfl, rfl⟩
    have hb11 := below_chain (below_chain (below_chain (below_chain (below_of_drewN _ w (m2 + m4)) hb7) hb8) hb9) hb10
    clear hb7 hb8 hb9 hb10
    go_wp2
    go_ret
    exact ⟨rfl, hb11⟩

set_option maxRecDepth 100000 in
set_option maxHeartbeats 1000000 in
theorem markTells_no3 (s t : Bytes) (k : UInt8) (a b : Nat) (n : Int) (w : World) (x y : Nat) (c : Bool) (q : Bytes) (z : Nat) (H : Hid (Mid s t k a b x y c q z)) (HW : Hid (Way s t x y c)) (HJ : Hid (JoinGives a b n 0 4))
    (l1 : decide ((2000 : Int) < (s.length : Int)) = false) (l2 : decide ((2000 : Int) < (t.length : Int)) = false) (c1 : decide ((2305843009213693951 : Int) ≤ (a : Int)) = false) (c2 : decide ((2305843009213693951 : Int) ≤ (b : Int)) = false) (c3 : decide (n < 0) = false) (c4 : decide (600 < n) = true) :
    Calls Try.prog 3 #[.string (S s), .string (S t), .int .u8 (k.toNat : Int), .int .u64 (a : Int), .int .u64 (b : Int), .int .i64 n] w fun e w' => e = .returned (.bool true) ∧ Below w.heap.size w w' := by
  rcases HW.out with ⟨rfl, rfl⟩ | ⟨hne, rfl, hxy⟩ | ⟨hne, rfl, hxy⟩
  · clear HW
    go_enter Try.func3, Try.ntmps3
    go_wp2_with fail
    refine (HJ.out _).mono ?_
    rintro e' w1 ⟨rfl, rfl⟩
    go_wp2_with fail
    refine (H.out.ofS _).mono ?_
    rintro e' w2 ⟨rfl, m2, rfl⟩
    go_wp2_with fail
    refine (H.out.markS _).mono ?_
    rintro e' w3 ⟨rfl, rfl⟩
    go_wp2_with fail
    refine (H.out.alike _).mono ?_
    rintro e' w4 ⟨rfl, m4, rfl⟩
    go_wp2_with fail
    refine (H.out.said _).mono ?_
    rintro e' w7 ⟨rfl, hb7⟩
    go_wp2_with fail
    refine (H.out.refTwo _).mono ?_
    rintro e' w8 ⟨rfl, hb8⟩
    go_wp2_with fail
    refine (H.out.two _).mono ?_
    rintro e' w9 ⟨rfl, hb9⟩
    go_wp2_with fail
    refine (H.out.refTwo _).mono ?_
    rintro e' w10 ⟨rfl, hb10⟩
    go_wp2_with fail
    refine (H.out.markQ _).mono ?_
    rintro e' w11 ⟨rfl, rfl⟩
    have hb11 := below_chain (below_chain (below_chain (below_chain (below_of_drewN _ w (m2 + m4)) hb7) hb8) hb9) hb10
    clear hb7 hb8 hb9 hb10
    go_wp2
    go_ret
    exact ⟨rfl, hb11⟩
  · clear HW
    go_enter Try.func3, Try.ntmps3
    go_wp2_with fail
    refine (HJ.out _).mono ?_
    rintro e' w1 ⟨rfl, rfl⟩
    go_wp2_with fail
    refine (H.out.ofS _).mono ?_
    rintro e' w2 ⟨rfl, m2, rfl⟩
    go_wp2_with fail
    refine (H.out.markS _).mono ?_
    rintro e' w3 ⟨rfl, rfl⟩
    go_wp2_with fail
    refine (H.out.alike _).mono ?_
    rintro e' w4 ⟨rfl, m4, rfl⟩
    go_wp2_with fail
    refine (H.out.markS _).mono ?_
    rintro e' w5 ⟨rfl, rfl⟩
    go_wp2_with fail
    refine (H.out.markT _).mono ?_
    rintro e' w6 ⟨rfl, rfl⟩
    go_wp2_with fail
    refine (H.out.said _).mono ?_
    rintro e' w7 ⟨rfl, hb7⟩
    go_wp2_with fail
    refine (H.out.refTwo _).mono ?_
    rintro e' w8 ⟨rfl, hb8⟩
    go_wp2_with fail
    refine (H.out.two _).mono ?_
    rintro e' w9 ⟨rfl, hb9⟩
    go_wp2_with fail
    refine (H.out.refTwo _).mono ?_
    rintro e' w10 ⟨rfl, hb10⟩
    go_wp2_with fail
    refine (H.out.markQ _).mono ?_
    rintro e' w11 ⟨rfl, rfl⟩
    have hb11 := below_chain (below_chain (below_chain (below_chain (below_of_drewN _ w (m2 + m4)) hb7) hb8) hb9) hb10
    clear hb7 hb8 hb9 hb10
    go_wp2
    go_ret
    exact ⟨rfl, hb11⟩
  · clear HW
    go_enter Try.func3, Try.ntmps3
    go_wp2_with fail
    refine (HJ.out _).mono ?_
    rintro e' w1 ⟨rfl, rfl⟩
    go_wp2_with fail
    refine (H.out.ofS _).mono ?_
    rintro e' w2 ⟨rfl, m2, rfl⟩
    go_wp2_with fail
    refine (H.out.markS _).mono ?_
    rintro e' w3 ⟨rfl, rfl⟩
    go_wp2_with fail
    refine (H.out.alike _).mono ?_
    rintro e' w4 ⟨rfl, m4, rfl⟩
    go_wp2_with fail
    refine (H.out.markS _).mono ?_
    rintro e' w5 ⟨rfl, rfl⟩
    go_wp2_with fail
    refine (H.out.markT _).mono ?_
    rintro e' w6 ⟨rfl, rfl⟩
    go_wp2_with fail
    refine (H.out.said _).mono ?_
    rintro e' w7 ⟨rfl, hb7⟩
    go_wp2_with fail
    refine (H.out.refTwo _).mono ?_
    rintro e' w8 ⟨rfl, hb8⟩
    go_wp2_with fail
    refine (H.out.two _).mono ?_
    rintro e' w9 ⟨rfl, hb9⟩
    go_wp2_with fail
    refine (H.out.refTwo _).mono ?_
    rintro e' w10 ⟨rfl, hb10⟩
    go_wp2_with fail
    refine (H.out.markQ _).mono ?_
    rintro e' w11 ⟨rfl, rfl⟩
    have hb11 := below_chain (below_chain (below_chain (below_chain (below_of_drewN _ w (m2 + m4)) hb7) hb8) hb9) hb10
    clear hb7 hb8 hb9 hb10
    go_wp2
    go_ret
    exact ⟨rfl, hb11⟩

set_option maxRecDepth 100000 in
set_option maxHeartbeats 1000000 in
theorem markTells_yes (s t : Bytes) (k : UInt8) (a b : Nat) (n : Nat) (w : World) (x y : Nat) (c : Bool) (q : Bytes) (z : Nat) (H : Hid (Mid s t k a b x y c q z)) (HW : Hid (Way s t x y c)) (m p r : Nat) (HJ : Hid (JoinGives a b n m 0))
    (l1 : decide ((2000 : Int) < (s.length : Int)) = false) (l2 : decide ((2000 : Int) < (t.length : Int)) = false) (c1 : decide ((2305843009213693951 : Int) ≤ (a : Int)) = false) (c2 : decide ((2305843009213693951 : Int) ≤ (b : Int)) = false) (c3 : decide ((n : Int) < 0) = false) (c4 : decide ((600 : Int) < (n : Int)) = false) (c5 : decide ((m : Int) < 2305843009213693951) = true)
    (HP : ∀ w : World, Hid (Calls Try.prog 14 #[.int .i64 (n : Int)] w fun e w' => e = .returned (.int .u64 (p : Int)) ∧ w = w'))
    (HR : ∀ w : World, Hid (Calls Try.prog 15 #[.int .u64 (a : Int), .int .u64 (p : Int)] w fun e w' => e = .returned (.int .u64 (r : Int)) ∧ w = w'))
    (hfin : ((IntKind.u64.wrap ((m : Int) + (p : Int))).tmod 2305843009213693951 == (IntKind.u64.wrap ((r : Int) + (b : Int))).tmod 2305843009213693951) = true) :
    Calls Try.prog 3 #[.string (S s), .string (S t), .int .u8 (k.toNat : Int), .int .u64 (a : Int), .int .u64 (b : Int), .int .i64 (n : Int)] w fun e w' => e = .returned (.bool true) ∧ Below w.heap.size w w' := by
  rcases HW.out with ⟨rfl, rfl⟩ | ⟨hne, rfl, hxy⟩ | ⟨hne, rfl, hxy⟩
  · clear HW
    go_enter Try.func3, Try.ntmps3
    go_wp2_with fail
    refine (HJ.out _).mono ?_
    rintro e' w1 ⟨rfl, rfl⟩
    go_wp2_with fail
    refine (H.out.ofS _).mono ?_
    rintro e' w2 ⟨rfl, m2, rfl⟩
    go_wp2_with fail
    refine (H.out.markS _).mono ?_
    rintro e' w3 ⟨rfl, rfl⟩
    go_wp2_with fail
    refine (H.out.alike _).mono ?_
    rintro e' w4 ⟨rfl, m4, rfl⟩
    go_wp2_with fail
    refine (H.out.said _).mono ?_
    rintro e' w7 ⟨rfl, hb7⟩
    go_wp2_with fail
    refine (H.out.refTwo _).mono ?_
    rintro e' w8 ⟨rfl, hb8⟩
    go_wp2_with fail
    refine (H.out.two _).mono ?_
    rintro e' w9 ⟨rfl, hb9⟩
    go_wp2_with fail
    refine (H.out.refTwo _).mono ?_
    rintro e' w10 ⟨rfl, hb10⟩
    go_wp2_with fail
    refine (H.out.markQ _).mono ?_
    rintro e' w11 ⟨rfl, rfl⟩
    have hb11 := below_chain (below_chain (below_chain (below_chain (below_of_drewN _ w (m2 + m4)) hb7) hb8) hb9) hb10
    clear hb7 hb8 hb9 hb10
    go_wp2_with fail
    refine (HP _).out.mono ?_
    rintro e' w12 ⟨rfl, rfl⟩
    go_wp2_with fail
    refine (HR _).out.mono ?_
    rintro e' w12 ⟨rfl, rfl⟩
    go_wp2
    go_ret
    exact ⟨rfl, hb11⟩
  · clear HW
    go_enter Try.func3, Try.ntmps3
    go_wp2_with fail
    refine (HJ.out _).mono ?_
    rintro e' w1 ⟨rfl, rfl⟩
    go_wp2_with fail
    refine (H.out.ofS _).mono ?_
    rintro e' w2 ⟨rfl, m2, rfl⟩
    go_wp2_with fail
    refine (H.out.markS _).mono ?_
    rintro e' w3 ⟨rfl, rfl⟩
    go_wp2_with fail
    refine (H.out.alike _).mono ?_
    rintro e' w4 ⟨rfl, m4, rfl⟩
    go_wp2_with fail
    refine (H.out.markS _).mono ?_
    rintro e' w5 ⟨rfl, rfl⟩
    go_wp2_with fail
    refine (H.out.markT _).mono ?_
    rintro e' w6 ⟨rfl, rfl⟩
    go_wp2_with fail
    refine (H.out.said _).mono ?_
    rintro e' w7 ⟨rfl, hb7⟩
    go_wp2_with fail
    refine (H.out.refTwo _).mono ?_
    rintro e' w8 ⟨rfl, hb8⟩
    go_wp2_with fail
    refine (H.out.two _).mono ?_
    rintro e' w9 ⟨rfl, hb9⟩
    go_wp2_with fail
    refine (H.out.refTwo _).mono ?_
    rintro e' w10 ⟨rfl, hb10⟩
    go_wp2_with fail
    refine (H.out.markQ _).mono ?_
    rintro e' w11 ⟨rfl, rfl⟩
    have hb11 := below_chain (below_chain (below_chain (below_chain (below_of_drewN _ w (m2 + m4)) hb7) hb8) hb9) hb10
    clear hb7 hb8 hb9 hb10
    go_wp2_with fail
    refine (HP _).out.mono ?_
    rintro e' w12 ⟨rfl, rfl⟩
    go_wp2_with fail
    refine (HR _).out.mono ?_
    rintro e' w12 ⟨rfl, rfl⟩
    go_wp2
    go_ret
    exact ⟨rfl, hb11⟩
  · clear HW
    go_enter Try.func3, Try.ntmps3
    go_wp2_with fail
    refine (HJ.out _).mono ?_
    rintro e' w1 ⟨rfl, rfl⟩
    go_wp2_with fail
    refine (H.out.ofS _).mono ?_
    rintro e' w2 ⟨rfl, m2, rfl⟩
    go_wp2_with fail
    refine (H.out.markS _).mono ?_
    rintro e' w3 ⟨rfl, rfl⟩
    go_wp2_with fail
    refine (H.out.alike _).mono ?_
    rintro e' w4 ⟨rfl, m4, rfl⟩
    go_wp2_with fail
    refine (H.out.markS _).mono ?_
    rintro e' w5 ⟨rfl, rfl⟩
    go_wp2_with fail
    refine (H.out.markT _).mono ?_
    rintro e' w6 ⟨rfl, rfl⟩
    go_wp2_with fail
    refine (H.out.said _).mono ?_
    rintro e' w7 ⟨rfl, hb7⟩
    go_wp2_with fail
    refine (H.out.refTwo _).mono ?_
    rintro e' w8 ⟨rfl, hb8⟩
    go_wp2_with fail
    refine (H.out.two _).mono ?_
    rintro e' w9 ⟨rfl, hb9⟩
    go_wp2_with fail
    refine (H.out.refTwo _).mono ?_
    rintro e' w10 ⟨rfl, hb10⟩
    go_wp2_with fail
    refine (H.out.markQ _).mono ?_
    rintro e' w11 ⟨rfl, rfl⟩
    have hb11 := below_chain (below_chain (below_chain (below_chain (below_of_drewN _ w (m2 + m4)) hb7) hb8) hb9) hb10
    clear hb7 hb8 hb9 hb10
    go_wp2_with fail
    refine (HP _).out.mono ?_
    rintro e' w12 ⟨rfl, rfl⟩
    go_wp2_with fail
    refine (HR _).out.mono ?_
    rintro e' w12 ⟨rfl, rfl⟩
    go_wp2
    go_ret
    exact ⟨rfl, hb11⟩

theorem markTells_walk (s t : Bytes) (k : UInt8) (a b : Nat) (n : Int) (w : World) (ha : a < 18446744073709551616) (hb : b < 18446744073709551616) :
    Calls Try.prog 3 #[.string (S s), .string (S t), .int .u8 (k.toNat : Int), .int .u64 (a : Int), .int .u64 (b : Int), .int .i64 n] w fun e w' => e = .returned (.bool true) ∧ Below w.heap.size w w' := by
  by_cases hl : 2000 < s.length ∨ 2000 < t.length
  · exact markTells_long s t k a b n w hl
  · have l1 : decide ((2000 : Int) < (s.length : Int)) = false := decide_eq_false (by omega)
    have l2 : decide ((2000 : Int) < (t.length : Int)) = false := decide_eq_false (by omega)
    have H := Lib.hid (mid s t k a b (by omega) (by omega) ha hb)
    have HW := Lib.hid (way s t)
    by_cases h1 : 2305843009213693951 ≤ a
    · exact markTells_no0 s t k a b n w _ _ _ _ _ H HW (fun w => markJoin_no a b n w (.inl h1)) l1 l2 (decide_eq_true (by omega))
    · by_cases h2 : 2305843009213693951 ≤ b
      · exact markTells_no1 s t k a b n w _ _ _ _ _ H HW (fun w => markJoin_no a b n w (.inr (.inl h2))) l1 l2 (decide_eq_false (by omega)) (decide_eq_true (by omega))
      · by_cases h3 : n < 0
        · exact markTells_no2 s t k a b n w _ _ _ _ _ H HW (fun w => markJoin_no a b n w (.inr (.inr (.inl h3)))) l1 l2 (decide_eq_false (by omega)) (decide_eq_false (by omega)) (decide_eq_true h3)
        · by_cases h4 : 600 < n
          · exact markTells_no3 s t k a b n w _ _ _ _ _ H HW (fun w => markJoin_no a b n w (.inr (.inr (.inr h4)))) l1 l2 (decide_eq_false (by omega)) (decide_eq_false (by omega)) (decide_eq_false h3) (decide_eq_true h4)
          · obtain ⟨i, rfl⟩ := Int.eq_ofNat_of_zero_le (a := n) (by omega)
            have hp : Hash.pw i < 2305843009213693951 := Hash.pw_lt i
            exact markTells_yes s t k a b i w _ _ _ _ _ H HW _ (Hash.pw i) (a * Hash.pw i % 2305843009213693951) (fun w => markJoin_yes a b i w (by omega) (by omega) (by omega)) l1 l2 (decide_eq_false (by omega)) (decide_eq_false (by omega)) (decide_eq_false (by omega)) (decide_eq_false (by omega))
              (decide_eq_true (by have := Nat.mod_lt (a * Hash.pw i % 2305843009213693951 + b + (2305843009213693951 - Hash.pw i)) (show 0 < 2305843009213693951 by decide); omega))
              (fun w => refPower i w (by omega)) (fun w => refMul a (Hash.pw i) _ w ha (by omega) rfl)
              (fin_val _ _ b (Hash.pw i) (Nat.mod_lt _ (by decide)) hp (Nat.mod_lt _ (by decide)) (by omega) rfl)

set_option maxRecDepth 100000 in
theorem markTells_lifted (os : Os) (started : os.Started) (H : Type) (enc : TypeId × Value → H) :
    ReturnsInHanded {} Try.checked os 3 .any (Rows.markTellsSpec.pre6 enc Try.prog Try.f3 Rows.markTellsRow.domain false) (Rows.markTellsSpec.post enc Try.prog Try.f3 false true false false) := by
  refine returnsInHanded_of_change (C := Try.checked) own started (by kernel_rfl) Try.func3
    (ChangeSpec.witness6 (enc := enc) (C := Try.checked) false ⟨#[], #[.string ⟨#[]⟩, .string ⟨#[]⟩, .int .u8 0, .int .u64 0, .int .u64 0, .int .i64 0], []⟩ 8 (by kernel_rfl) (by kernel_rfl) (by kernel_rfl) (by kernel_rfl)) ?_
  intro W base args ds gs before hval0 hW hcnd _
  have hval : ∀ (j : Nat) t v, Try.f3.params[j]? = some t → args[j]? = some v → Value.okWide Try.prog W .any base t v := hval0
  have hW' := hW
  obtain ⟨p, q, hA0, hV, rfl, hfz, hnd⟩ := hW
  have hA : DataW.TrodAll enc Try.prog W 0 (fun _ => true) true Try.f3.params.toList args.toList ds p := hA0
  rw [Try.params3] at hA hval
  obtain ⟨v0, vs0, d0, ds0, p0, q0, hargs, rfl, rfl, h0, r0⟩ := trodAll_cons hA
  obtain ⟨v1, vs1, d1, ds1, p1, q1, rfl, rfl, rfl, h1, r1⟩ := trodAll_cons r0
  obtain ⟨v2, vs2, d2, ds2, p2, q2, rfl, rfl, rfl, h2, r2⟩ := trodAll_cons r1
  obtain ⟨v3, vs3, d3, ds3, p3, q3, rfl, rfl, rfl, h3, r3⟩ := trodAll_cons r2
  obtain ⟨v4, vs4, d4, ds4, p4, q4, rfl, rfl, rfl, h4, r4⟩ := trodAll_cons r3
  obtain ⟨v5, vs5, d5, ds5, p5, q5, rfl, rfl, rfl, h5, r5⟩ := trodAll_cons r4
  obtain ⟨rfl, rfl, rfl⟩ := trodAll_nil r5
  obtain rfl : args = #[v0, v1, v2, v3, v4, v5] := by cases args; simp_all
  obtain ⟨rfl, rfl⟩ := trodVars_none hV
  obtain ⟨l0, rfl, hl0⟩ := arg_str (hval 0 9 v0 rfl rfl) h0
  obtain ⟨l1, rfl, hl1⟩ := arg_str (hval 1 9 v1 rfl rfl) h1
  obtain ⟨b2, rfl⟩ := arg_u8 (hval 2 5 v2 rfl rfl) h2
  obtain ⟨n3, rfl, hn3⟩ := arg_u64 (hval 3 22 v3 rfl rfl) h3
  obtain ⟨n4, rfl, hn4⟩ := arg_u64 (hval 4 22 v4 rfl rfl) h4
  obtain ⟨x5, rfl, hx5, hy5⟩ := arg_i64 (hval 5 3 v5 rfl rfl) h5
  refine (markTells_walk l0 l1 b2 n3 n4 x5 W hn3 hn4).mono fun e W' ⟨he, hb⟩ => ?_
  subst he
  exact ⟨_, rfl, post_law laidOut (by decide +kernel) rfl Try.underlying4 (by kernel_rfl) hW' rfl hb⟩

/-- The statement. -/
theorem markTells_said : Rows.MarkTellsSaid :=
  OpenClaim.holds_of_wide 3 Try.f3 rfl rfl rfl rfl rfl rfl rfl ⟨rfl, rfl, rfl, rfl, rfl⟩ rfl rfl rfl rfl rfl (by kernel_rfl) Try.func3 (by kernel_rfl)
    (of_decide_eq_true (by kernel_rfl)) (by unfold Func.isWrapper; first | (rw [if_pos (by decide +kernel)]; kernel_rfl) | (rw [if_neg (by decide +kernel)]; exact ⟨rfl, rfl⟩))
    (fun os started H enc _ => markTells_lifted os started H enc)
#print axioms markTells_said
end Go.Proofs.Ytaikahaohadaeaa
