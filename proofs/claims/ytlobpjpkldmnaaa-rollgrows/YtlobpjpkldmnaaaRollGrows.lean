/- RollGrows: whatever is handed in, Grew and IsGrown answer what the reference answers. -/
import Derived.Test.YtlobpjpkldmnaaaRollGrow
import Derived.Test.YtlobpjpkldmnaaaRollVerify
import Derived.Test.YtlobpjpkldmnaaaRefRollGrew
import Derived.Test.YtlobpjpkldmnaaaRefRollGrown
import Derived.Test.YtlobpjpkldmnaaaRollArgs
namespace Go.Proofs.Ytlobpjpkldmnaaa
set_option maxRecDepth 100000
open Go.ChangeShapes Go.WideShapes Go.ChangeAt Go.RowKit

set_option maxHeartbeats 4000000 in
theorem grows_fa (A : Option Addr) (c : Nat) (l : List Bytes) (a b : Nat) (B : Option Addr) (d : Nat) (p : List Nat) (w : World) (hm : l.length ≤ maxLen) (hl : ∀ s ∈ l, s.length ≤ maxLen) (hA : Row w A (scells l))
    (m : Int) (r : Int) (hf : rfault l = r) (h0 : r ≠ 0) (k n : Int) (k0 : n < 1) :
    Calls Try.prog 4 #[.slice A l.length c, .int .i64 m, .int .u64 (a : Int), .int .u64 (b : Int), .int .i64 k, .int .i64 n, .slice B p.length d] w fun e w' => e = .returned (.bool true) ∧ Below w.heap.size w w' := by
  have hG := fun w hA => Lib.hid (rollGrew_no A c l m w hm hl hA r (by unfold grewErr; rw [hf, if_pos h0]) h0)
  have hF := fun w hA => Lib.hid (refRollFault A c l w hm hl hA r hf)
  have g1 : (r == 0) = false := beq_eq_false_iff_ne.2 h0
  have g2 : (r != 0) = true := bne_iff_ne.2 h0
  clear hf
  have hI := fun w => Lib.hid (rollIsGrown_no a b k n B p.length d w 4 (by unfold isgErr; rw [if_pos (.inl k0)]) (by decide))
  unfold maxLen at hm
  clear hl
  go_enter Try.func4, Try.ntmps4
  go_wp2_with fail
  refine (hG _ hA).out.mono ?_
  rintro e w1 ⟨rfl, hw⟩
  subst hw
  have hA1 := hA
  have hb1 := Below.refl w.heap.size w
  clear hG hA
  go_wp2_with fail
  refine (hI _).out.mono ?_
  rintro e w2 ⟨rfl, hw⟩
  subst hw
  have hb02 := hb1
  have hA2 := hA1
  clear hI hA1 hb1
  go_wp2_with fail
  refine (hF _ hA2).out.mono ?_
  rintro e w3 ⟨rfl, hw⟩
  subst hw
  clear hF
  go_wp2
  go_ret
  exact ⟨rfl, hb02⟩

set_option maxHeartbeats 4000000 in
theorem grows_fb (A : Option Addr) (c : Nat) (l : List Bytes) (a b : Nat) (B : Option Addr) (d : Nat) (p : List Nat) (w : World) (hm : l.length ≤ maxLen) (hl : ∀ s ∈ l, s.length ≤ maxLen) (hA : Row w A (scells l))
    (m : Int) (r : Int) (hf : rfault l = r) (h0 : r ≠ 0) (k n : Int) (k0 : 40 < n) :
    Calls Try.prog 4 #[.slice A l.length c, .int .i64 m, .int .u64 (a : Int), .int .u64 (b : Int), .int .i64 k, .int .i64 n, .slice B p.length d] w fun e w' => e = .returned (.bool true) ∧ Below w.heap.size w w' := by
  have hG := fun w hA => Lib.hid (rollGrew_no A c l m w hm hl hA r (by unfold grewErr; rw [hf, if_pos h0]) h0)
  have hF := fun w hA => Lib.hid (refRollFault A c l w hm hl hA r hf)
  have g1 : (r == 0) = false := beq_eq_false_iff_ne.2 h0
  have g2 : (r != 0) = true := bne_iff_ne.2 h0
  clear hf
  have hI := fun w => Lib.hid (rollIsGrown_no a b k n B p.length d w 4 (by unfold isgErr; rw [if_pos (.inr (.inl k0))]) (by decide))
  have k1 : decide (n < 1) = false := decide_eq_false (by omega)
  unfold maxLen at hm
  clear hl
  go_enter Try.func4, Try.ntmps4
  go_wp2_with fail
  refine (hG _ hA).out.mono ?_
  rintro e w1 ⟨rfl, hw⟩
  subst hw
  have hA1 := hA
  have hb1 := Below.refl w.heap.size w
  clear hG hA
  go_wp2_with fail
  refine (hI _).out.mono ?_
  rintro e w2 ⟨rfl, hw⟩
  subst hw
  have hb02 := hb1
  have hA2 := hA1
  clear hI hA1 hb1
  go_wp2_with fail
  refine (hF _ hA2).out.mono ?_
  rintro e w3 ⟨rfl, hw⟩
  subst hw
  clear hF
  go_wp2
  go_ret
  exact ⟨rfl, hb02⟩

set_option maxHeartbeats 4000000 in
theorem grows_fc (A : Option Addr) (c : Nat) (l : List Bytes) (a b : Nat) (B : Option Addr) (d : Nat) (p : List Nat) (w : World) (hm : l.length ≤ maxLen) (hl : ∀ s ∈ l, s.length ≤ maxLen) (hA : Row w A (scells l))
    (m : Int) (r : Int) (hf : rfault l = r) (h0 : r ≠ 0) (k n : Int) (k2 : ¬ n < 1) (k3 : ¬ 40 < n) (k0 : k < 1) :
    Calls Try.prog 4 #[.slice A l.length c, .int .i64 m, .int .u64 (a : Int), .int .u64 (b : Int), .int .i64 k, .int .i64 n, .slice B p.length d] w fun e w' => e = .returned (.bool true) ∧ Below w.heap.size w w' := by
  have hG := fun w hA => Lib.hid (rollGrew_no A c l m w hm hl hA r (by unfold grewErr; rw [hf, if_pos h0]) h0)
  have hF := fun w hA => Lib.hid (refRollFault A c l w hm hl hA r hf)
  have g1 : (r == 0) = false := beq_eq_false_iff_ne.2 h0
  have g2 : (r != 0) = true := bne_iff_ne.2 h0
  clear hf
  have hI := fun w => Lib.hid (rollIsGrown_no a b k n B p.length d w 4 (by unfold isgErr; rw [if_pos (.inr (.inr (.inl k0)))]) (by decide))
  have k4 : decide (n < 1) = false := decide_eq_false k2
  have k5 : decide (40 < n) = false := decide_eq_false k3
  clear k2 k3
  unfold maxLen at hm
  clear hl
  go_enter Try.func4, Try.ntmps4
  go_wp2_with fail
  refine (hG _ hA).out.mono ?_
  rintro e w1 ⟨rfl, hw⟩
  subst hw
  have hA1 := hA
  have hb1 := Below.refl w.heap.size w
  clear hG hA
  go_wp2_with fail
  refine (hI _).out.mono ?_
  rintro e w2 ⟨rfl, hw⟩
  subst hw
  have hb02 := hb1
  have hA2 := hA1
  clear hI hA1 hb1
  go_wp2_with fail
  refine (hF _ hA2).out.mono ?_
  rintro e w3 ⟨rfl, hw⟩
  subst hw
  clear hF
  go_wp2
  go_ret
  exact ⟨rfl, hb02⟩

set_option maxHeartbeats 4000000 in
theorem grows_fd (A : Option Addr) (c : Nat) (l : List Bytes) (a b : Nat) (B : Option Addr) (d : Nat) (p : List Nat) (w : World) (hm : l.length ≤ maxLen) (hl : ∀ s ∈ l, s.length ≤ maxLen) (hA : Row w A (scells l))
    (m : Int) (r : Int) (hf : rfault l = r) (h0 : r ≠ 0) (k n : Int) (k2 : ¬ n < 1) (k3 : ¬ 40 < n) (k6 : ¬ k < 1) (k0 : n < k) :
    Calls Try.prog 4 #[.slice A l.length c, .int .i64 m, .int .u64 (a : Int), .int .u64 (b : Int), .int .i64 k, .int .i64 n, .slice B p.length d] w fun e w' => e = .returned (.bool true) ∧ Below w.heap.size w w' := by
  have hG := fun w hA => Lib.hid (rollGrew_no A c l m w hm hl hA r (by unfold grewErr; rw [hf, if_pos h0]) h0)
  have hF := fun w hA => Lib.hid (refRollFault A c l w hm hl hA r hf)
  have g1 : (r == 0) = false := beq_eq_false_iff_ne.2 h0
  have g2 : (r != 0) = true := bne_iff_ne.2 h0
  clear hf
  have hI := fun w => Lib.hid (rollIsGrown_no a b k n B p.length d w 4 (by unfold isgErr; rw [if_pos (.inr (.inr (.inr k0)))]) (by decide))
  have k4 : decide (n < 1) = false := decide_eq_false k2
  have k5 : decide (40 < n) = false := decide_eq_false k3
  have k7 : decide (k < 1) = false := decide_eq_false k6
  clear k2 k3 k6
  unfold maxLen at hm
  clear hl
  go_enter Try.func4, Try.ntmps4
  go_wp2_with fail
  refine (hG _ hA).out.mono ?_
  rintro e w1 ⟨rfl, hw⟩
  subst hw
  have hA1 := hA
  have hb1 := Below.refl w.heap.size w
  clear hG hA
  go_wp2_with fail
  refine (hI _).out.mono ?_
  rintro e w2 ⟨rfl, hw⟩
  subst hw
  have hb02 := hb1
  have hA2 := hA1
  clear hI hA1 hb1
  go_wp2_with fail
  refine (hF _ hA2).out.mono ?_
  rintro e w3 ⟨rfl, hw⟩
  subst hw
  clear hF
  go_wp2
  go_ret
  exact ⟨rfl, hb02⟩

set_option maxHeartbeats 4000000 in
theorem grows_fe (A : Option Addr) (c : Nat) (l : List Bytes) (a b : Nat) (B : Option Addr) (d : Nat) (p : List Nat) (w : World) (hm : l.length ≤ maxLen) (hl : ∀ s ∈ l, s.length ≤ maxLen) (hA : Row w A (scells l)) (ha : a < 18446744073709551616) (hp : ∀ z ∈ p, z < 18446744073709551616) (hpm : p.length ≤ maxLen) (hd : p.length ≤ d) (hdm : d ≤ maxLen) (hB : Row w B (mcells p))
    (m : Int) (r : Int) (hf : rfault l = r) (h0 : r ≠ 0) (k n : Nat) (k1 : 1 ≤ k) (k2 : n ≤ 40) (k3 : k ≤ n) :
    Calls Try.prog 4 #[.slice A l.length c, .int .i64 m, .int .u64 (a : Int), .int .u64 (b : Int), .int .i64 (k : Int), .int .i64 (n : Int), .slice B p.length d] w fun e w' => e = .returned (.bool true) ∧ Below w.heap.size w w' := by
  have hG := fun w hA => Lib.hid (rollGrew_no A c l m w hm hl hA r (by unfold grewErr; rw [hf, if_pos h0]) h0)
  have hF := fun w hA => Lib.hid (refRollFault A c l w hm hl hA r hf)
  have g1 : (r == 0) = false := beq_eq_false_iff_ne.2 h0
  have g2 : (r != 0) = true := bne_iff_ne.2 h0
  clear hf
  obtain ⟨u, hu⟩ : ∃ u, isgAns a k b n p = u := ⟨_, rfl⟩
  have hI := fun w hB => Lib.hid (rollIsGrown_yes a b k n p B d p.length w k1 k2 k3 ha hp rfl hd hdm hB u hu)
  have hV := fun w hB => Lib.hid (refRollGrown a b n k p B d w k1 k2 k3 ha hpm hd hp hB u hu)
  have k4 : decide ((n : Int) < 1) = false := decide_eq_false (by omega)
  have k5 : decide ((40 : Int) < (n : Int)) = false := decide_eq_false (by omega)
  have k6 : decide ((k : Int) < 1) = false := decide_eq_false (by omega)
  have k7 : decide (n < k) = false := decide_eq_false (by omega)
  have k8 : ¬ n < k := by omega
  clear hu k1 k2 k3
  unfold maxLen at hm hpm
  clear hl hp hd hdm ha
  go_enter Try.func4, Try.ntmps4
  go_wp2_with fail
  refine (hG _ hA).out.mono ?_
  rintro e w1 ⟨rfl, hw⟩
  subst hw
  have hA1 := hA
  have hb1 := Below.refl w.heap.size w
  have hB1 := hB
  clear hG hA hB
  go_wp2_with fail
  refine (hI _ hB1).out.mono ?_
  rintro e w2 ⟨rfl, hb2⟩
  have hb02 := below_chain hb1 hb2
  have hA2 := hA1.below hb2
  have hB2 := hB1.below hb2
  clear hI hA1 hB1 hb1 hb2
  go_wp2_with fail
  refine (hF _ hA2).out.mono ?_
  rintro e w3 ⟨rfl, hw⟩
  subst hw
  clear hF
  go_wp2_with fail
  refine (hV _ hB2).out.mono ?_
  rintro e w6 ⟨rfl, hb6⟩
  go_wp2
  go_ret
  exact ⟨by simp, below_chain hb02 hb6⟩

set_option maxHeartbeats 4000000 in
theorem grows_la (A : Option Addr) (c : Nat) (l : List Bytes) (a b : Nat) (B : Option Addr) (d : Nat) (p : List Nat) (w : World) (hm : l.length ≤ maxLen) (hl : ∀ s ∈ l, s.length ≤ maxLen) (hA : Row w A (scells l))
    (m : Int) (hf : rfault l = 0) (h0 : m < 1) (k n : Int) (k0 : n < 1) :
    Calls Try.prog 4 #[.slice A l.length c, .int .i64 m, .int .u64 (a : Int), .int .u64 (b : Int), .int .i64 k, .int .i64 n, .slice B p.length d] w fun e w' => e = .returned (.bool true) ∧ Below w.heap.size w w' := by
  have hG := fun w hA => Lib.hid (rollGrew_no A c l m w hm hl hA 4 (by unfold grewErr; rw [hf, if_neg (by simp), if_pos (.inl h0)]) (by decide))
  have hF := fun w hA => Lib.hid (refRollFault A c l w hm hl hA 0 hf)
  clear hf
  have hI := fun w => Lib.hid (rollIsGrown_no a b k n B p.length d w 4 (by unfold isgErr; rw [if_pos (.inl k0)]) (by decide))
  unfold maxLen at hm
  clear hl
  go_enter Try.func4, Try.ntmps4
  go_wp2_with fail
  refine (hG _ hA).out.mono ?_
  rintro e w1 ⟨rfl, hw⟩
  subst hw
  have hA1 := hA
  have hb1 := Below.refl w.heap.size w
  clear hG hA
  go_wp2_with fail
  refine (hI _).out.mono ?_
  rintro e w2 ⟨rfl, hw⟩
  subst hw
  have hb02 := hb1
  have hA2 := hA1
  clear hI hA1 hb1
  go_wp2_with fail
  refine (hF _ hA2).out.mono ?_
  rintro e w3 ⟨rfl, hw⟩
  subst hw
  clear hF
  go_wp2
  go_ret
  exact ⟨rfl, hb02⟩

set_option maxHeartbeats 4000000 in
theorem grows_lb (A : Option Addr) (c : Nat) (l : List Bytes) (a b : Nat) (B : Option Addr) (d : Nat) (p : List Nat) (w : World) (hm : l.length ≤ maxLen) (hl : ∀ s ∈ l, s.length ≤ maxLen) (hA : Row w A (scells l))
    (m : Int) (hf : rfault l = 0) (h0 : m < 1) (k n : Int) (k0 : 40 < n) :
    Calls Try.prog 4 #[.slice A l.length c, .int .i64 m, .int .u64 (a : Int), .int .u64 (b : Int), .int .i64 k, .int .i64 n, .slice B p.length d] w fun e w' => e = .returned (.bool true) ∧ Below w.heap.size w w' := by
  have hG := fun w hA => Lib.hid (rollGrew_no A c l m w hm hl hA 4 (by unfold grewErr; rw [hf, if_neg (by simp), if_pos (.inl h0)]) (by decide))
  have hF := fun w hA => Lib.hid (refRollFault A c l w hm hl hA 0 hf)
  clear hf
  have hI := fun w => Lib.hid (rollIsGrown_no a b k n B p.length d w 4 (by unfold isgErr; rw [if_pos (.inr (.inl k0))]) (by decide))
  have k1 : decide (n < 1) = false := decide_eq_false (by omega)
  unfold maxLen at hm
  clear hl
  go_enter Try.func4, Try.ntmps4
  go_wp2_with fail
  refine (hG _ hA).out.mono ?_
  rintro e w1 ⟨rfl, hw⟩
  subst hw
  have hA1 := hA
  have hb1 := Below.refl w.heap.size w
  clear hG hA
  go_wp2_with fail
  refine (hI _).out.mono ?_
  rintro e w2 ⟨rfl, hw⟩
  subst hw
  have hb02 := hb1
  have hA2 := hA1
  clear hI hA1 hb1
  go_wp2_with fail
  refine (hF _ hA2).out.mono ?_
  rintro e w3 ⟨rfl, hw⟩
  subst hw
  clear hF
  go_wp2
  go_ret
  exact ⟨rfl, hb02⟩

set_option maxHeartbeats 4000000 in
theorem grows_lc (A : Option Addr) (c : Nat) (l : List Bytes) (a b : Nat) (B : Option Addr) (d : Nat) (p : List Nat) (w : World) (hm : l.length ≤ maxLen) (hl : ∀ s ∈ l, s.length ≤ maxLen) (hA : Row w A (scells l))
    (m : Int) (hf : rfault l = 0) (h0 : m < 1) (k n : Int) (k2 : ¬ n < 1) (k3 : ¬ 40 < n) (k0 : k < 1) :
    Calls Try.prog 4 #[.slice A l.length c, .int .i64 m, .int .u64 (a : Int), .int .u64 (b : Int), .int .i64 k, .int .i64 n, .slice B p.length d] w fun e w' => e = .returned (.bool true) ∧ Below w.heap.size w w' := by
  have hG := fun w hA => Lib.hid (rollGrew_no A c l m w hm hl hA 4 (by unfold grewErr; rw [hf, if_neg (by simp), if_pos (.inl h0)]) (by decide))
  have hF := fun w hA => Lib.hid (refRollFault A c l w hm hl hA 0 hf)
  clear hf
  have hI := fun w => Lib.hid (rollIsGrown_no a b k n B p.length d w 4 (by unfold isgErr; rw [if_pos (.inr (.inr (.inl k0)))]) (by decide))
  have k4 : decide (n < 1) = false := decide_eq_false k2
  have k5 : decide (40 < n) = false := decide_eq_false k3
  clear k2 k3
  unfold maxLen at hm
  clear hl
  go_enter Try.func4, Try.ntmps4
  go_wp2_with fail
  refine (hG _ hA).out.mono ?_
  rintro e w1 ⟨rfl, hw⟩
  subst hw
  have hA1 := hA
  have hb1 := Below.refl w.heap.size w
  clear hG hA
  go_wp2_with fail
  refine (hI _).out.mono ?_
  rintro e w2 ⟨rfl, hw⟩
  subst hw
  have hb02 := hb1
  have hA2 := hA1
  clear hI hA1 hb1
  go_wp2_with fail
  refine (hF _ hA2).out.mono ?_
  rintro e w3 ⟨rfl, hw⟩
  subst hw
  clear hF
  go_wp2
  go_ret
  exact ⟨rfl, hb02⟩

set_option maxHeartbeats 4000000 in
theorem grows_ld (A : Option Addr) (c : Nat) (l : List Bytes) (a b : Nat) (B : Option Addr) (d : Nat) (p : List Nat) (w : World) (hm : l.length ≤ maxLen) (hl : ∀ s ∈ l, s.length ≤ maxLen) (hA : Row w A (scells l))
    (m : Int) (hf : rfault l = 0) (h0 : m < 1) (k n : Int) (k2 : ¬ n < 1) (k3 : ¬ 40 < n) (k6 : ¬ k < 1) (k0 : n < k) :
    Calls Try.prog 4 #[.slice A l.length c, .int .i64 m, .int .u64 (a : Int), .int .u64 (b : Int), .int .i64 k, .int .i64 n, .slice B p.length d] w fun e w' => e = .returned (.bool true) ∧ Below w.heap.size w w' := by
  have hG := fun w hA => Lib.hid (rollGrew_no A c l m w hm hl hA 4 (by unfold grewErr; rw [hf, if_neg (by simp), if_pos (.inl h0)]) (by decide))
  have hF := fun w hA => Lib.hid (refRollFault A c l w hm hl hA 0 hf)
  clear hf
  have hI := fun w => Lib.hid (rollIsGrown_no a b k n B p.length d w 4 (by unfold isgErr; rw [if_pos (.inr (.inr (.inr k0)))]) (by decide))
  have k4 : decide (n < 1) = false := decide_eq_false k2
  have k5 : decide (40 < n) = false := decide_eq_false k3
  have k7 : decide (k < 1) = false := decide_eq_false k6
  clear k2 k3 k6
  unfold maxLen at hm
  clear hl
  go_enter Try.func4, Try.ntmps4
  go_wp2_with fail
  refine (hG _ hA).out.mono ?_
  rintro e w1 ⟨rfl, hw⟩
  subst hw
  have hA1 := hA
  have hb1 := Below.refl w.heap.size w
  clear hG hA
  go_wp2_with fail
  refine (hI _).out.mono ?_
  rintro e w2 ⟨rfl, hw⟩
  subst hw
  have hb02 := hb1
  have hA2 := hA1
  clear hI hA1 hb1
  go_wp2_with fail
  refine (hF _ hA2).out.mono ?_
  rintro e w3 ⟨rfl, hw⟩
  subst hw
  clear hF
  go_wp2
  go_ret
  exact ⟨rfl, hb02⟩

set_option maxHeartbeats 4000000 in
theorem grows_le (A : Option Addr) (c : Nat) (l : List Bytes) (a b : Nat) (B : Option Addr) (d : Nat) (p : List Nat) (w : World) (hm : l.length ≤ maxLen) (hl : ∀ s ∈ l, s.length ≤ maxLen) (hA : Row w A (scells l)) (ha : a < 18446744073709551616) (hp : ∀ z ∈ p, z < 18446744073709551616) (hpm : p.length ≤ maxLen) (hd : p.length ≤ d) (hdm : d ≤ maxLen) (hB : Row w B (mcells p))
    (m : Int) (hf : rfault l = 0) (h0 : m < 1) (k n : Nat) (k1 : 1 ≤ k) (k2 : n ≤ 40) (k3 : k ≤ n) :
    Calls Try.prog 4 #[.slice A l.length c, .int .i64 m, .int .u64 (a : Int), .int .u64 (b : Int), .int .i64 (k : Int), .int .i64 (n : Int), .slice B p.length d] w fun e w' => e = .returned (.bool true) ∧ Below w.heap.size w w' := by
  have hG := fun w hA => Lib.hid (rollGrew_no A c l m w hm hl hA 4 (by unfold grewErr; rw [hf, if_neg (by simp), if_pos (.inl h0)]) (by decide))
  have hF := fun w hA => Lib.hid (refRollFault A c l w hm hl hA 0 hf)
  clear hf
  obtain ⟨u, hu⟩ : ∃ u, isgAns a k b n p = u := ⟨_, rfl⟩
  have hI := fun w hB => Lib.hid (rollIsGrown_yes a b k n p B d p.length w k1 k2 k3 ha hp rfl hd hdm hB u hu)
  have hV := fun w hB => Lib.hid (refRollGrown a b n k p B d w k1 k2 k3 ha hpm hd hp hB u hu)
  have k4 : decide ((n : Int) < 1) = false := decide_eq_false (by omega)
  have k5 : decide ((40 : Int) < (n : Int)) = false := decide_eq_false (by omega)
  have k6 : decide ((k : Int) < 1) = false := decide_eq_false (by omega)
  have k7 : decide (n < k) = false := decide_eq_false (by omega)
  have k8 : ¬ n < k := by omega
  clear hu k1 k2 k3
  unfold maxLen at hm hpm
  clear hl hp hd hdm ha
  go_enter Try.func4, Try.ntmps4
  go_wp2_with fail
  refine (hG _ hA).out.mono ?_
  rintro e w1 ⟨rfl, hw⟩
  subst hw
  have hA1 := hA
  have hb1 := Below.refl w.heap.size w
  have hB1 := hB
  clear hG hA hB
  go_wp2_with fail
  refine (hI _ hB1).out.mono ?_
  rintro e w2 ⟨rfl, hb2⟩
  have hb02 := below_chain hb1 hb2
  have hA2 := hA1.below hb2
  have hB2 := hB1.below hb2
  clear hI hA1 hB1 hb1 hb2
  go_wp2_with fail
  refine (hF _ hA2).out.mono ?_
  rintro e w3 ⟨rfl, hw⟩
  subst hw
  clear hF
  go_wp2_with fail
  refine (hV _ hB2).out.mono ?_
  rintro e w6 ⟨rfl, hb6⟩
  go_wp2
  go_ret
  exact ⟨by simp, below_chain hb02 hb6⟩

set_option maxHeartbeats 4000000 in
theorem grows_ha (A : Option Addr) (c : Nat) (l : List Bytes) (a b : Nat) (B : Option Addr) (d : Nat) (p : List Nat) (w : World) (hm : l.length ≤ maxLen) (hl : ∀ s ∈ l, s.length ≤ maxLen) (hA : Row w A (scells l))
    (m : Int) (hf : rfault l = 0) (h0 : ¬ m < 1) (h1 : (l.length : Int) < m) (k n : Int) (k0 : n < 1) :
    Calls Try.prog 4 #[.slice A l.length c, .int .i64 m, .int .u64 (a : Int), .int .u64 (b : Int), .int .i64 k, .int .i64 n, .slice B p.length d] w fun e w' => e = .returned (.bool true) ∧ Below w.heap.size w w' := by
  have hG := fun w hA => Lib.hid (rollGrew_no A c l m w hm hl hA 4 (by unfold grewErr; rw [hf, if_neg (by simp), if_pos (.inr h1)]) (by decide))
  have hF := fun w hA => Lib.hid (refRollFault A c l w hm hl hA 0 hf)
  have g1 : decide (m < 1) = false := decide_eq_false h0
  clear hf h0
  have hI := fun w => Lib.hid (rollIsGrown_no a b k n B p.length d w 4 (by unfold isgErr; rw [if_pos (.inl k0)]) (by decide))
  unfold maxLen at hm
  clear hl
  go_enter Try.func4, Try.ntmps4
  go_wp2_with fail
  refine (hG _ hA).out.mono ?_
  rintro e w1 ⟨rfl, hw⟩
  subst hw
  have hA1 := hA
  have hb1 := Below.refl w.heap.size w
  clear hG hA
  go_wp2_with fail
  refine (hI _).out.mono ?_
  rintro e w2 ⟨rfl, hw⟩
  subst hw
  have hb02 := hb1
  have hA2 := hA1
  clear hI hA1 hb1
  go_wp2_with fail
  refine (hF _ hA2).out.mono ?_
  rintro e w3 ⟨rfl, hw⟩
  subst hw
  clear hF
  go_wp2
  go_ret
  exact ⟨rfl, hb02⟩

set_option maxHeartbeats 4000000 in
theorem grows_hb (A : Option Addr) (c : Nat) (l : List Bytes) (a b : Nat) (B : Option Addr) (d : Nat) (p : List Nat) (w : World) (hm : l.length ≤ maxLen) (hl : ∀ s ∈ l, s.length ≤ maxLen) (hA : Row w A (scells l))
    (m : Int) (hf : rfault l = 0) (h0 : ¬ m < 1) (h1 : (l.length : Int) < m) (k n : Int) (k0 : 40 < n) :
    Calls Try.prog 4 #[.slice A l.length c, .int .i64 m, .int .u64 (a : Int), .int .u64 (b : Int), .int .i64 k, .int .i64 n, .slice B p.length d] w fun e w' => e = .returned (.bool true) ∧ Below w.heap.size w w' := by
  have hG := fun w hA => Lib.hid (rollGrew_no A c l m w hm hl hA 4 (by unfold grewErr; rw [hf, if_neg (by simp), if_pos (.inr h1)]) (by decide))
  have hF := fun w hA => Lib.hid (refRollFault A c l w hm hl hA 0 hf)
  have g1 : decide (m < 1) = false := decide_eq_false h0
  clear hf h0
  have hI := fun w => Lib.hid (rollIsGrown_no a b k n B p.length d w 4 (by unfold isgErr; rw [if_pos (.inr (.inl k0))]) (by decide))
  have k1 : decide (n < 1) = false := decide_eq_false (by omega)
  unfold maxLen at hm
  clear hl
  go_enter Try.func4, Try.ntmps4
  go_wp2_with fail
  refine (hG _ hA).out.mono ?_
  rintro e w1 ⟨rfl, hw⟩
  subst hw
  have hA1 := hA
  have hb1 := Below.refl w.heap.size w
  clear hG hA
  go_wp2_with fail
  refine (hI _).out.mono ?_
  rintro e w2 ⟨rfl, hw⟩
  subst hw
  have hb02 := hb1
  have hA2 := hA1
  clear hI hA1 hb1
  go_wp2_with fail
  refine (hF _ hA2).out.mono ?_
  rintro e w3 ⟨rfl, hw⟩
  subst hw
  clear hF
  go_wp2
  go_ret
  exact ⟨rfl, hb02⟩

set_option maxHeartbeats 4000000 in
theorem grows_hc (A : Option Addr) (c : Nat) (l : List Bytes) (a b : Nat) (B : Option Addr) (d : Nat) (p : List Nat) (w : World) (hm : l.length ≤ maxLen) (hl : ∀ s ∈ l, s.length ≤ maxLen) (hA : Row w A (scells l))
    (m : Int) (hf : rfault l = 0) (h0 : ¬ m < 1) (h1 : (l.length : Int) < m) (k n : Int) (k2 : ¬ n < 1) (k3 : ¬ 40 < n) (k0 : k < 1) :
    Calls Try.prog 4 #[.slice A l.length c, .int .i64 m, .int .u64 (a : Int), .int .u64 (b : Int), .int .i64 k, .int .i64 n, .slice B p.length d] w fun e w' => e = .returned (.bool true) ∧ Below w.heap.size w w' := by
  have hG := fun w hA => Lib.hid (rollGrew_no A c l m w hm hl hA 4 (by unfold grewErr; rw [hf, if_neg (by simp), if_pos (.inr h1)]) (by decide))
  have hF := fun w hA => Lib.hid (refRollFault A c l w hm hl hA 0 hf)
  have g1 : decide (m < 1) = false := decide_eq_false h0
  clear hf h0
  have hI := fun w => Lib.hid (rollIsGrown_no a b k n B p.length d w 4 (by unfold isgErr; rw [if_pos (.inr (.inr (.inl k0)))]) (by decide))
  have k4 : decide (n < 1) = false := decide_eq_false k2
  have k5 : decide (40 < n) = false := decide_eq_false k3
  clear k2 k3
  unfold maxLen at hm
  clear hl
  go_enter Try.func4, Try.ntmps4
  go_wp2_with fail
  refine (hG _ hA).out.mono ?_
  rintro e w1 ⟨rfl, hw⟩
  subst hw
  have hA1 := hA
  have hb1 := Below.refl w.heap.size w
  clear hG hA
  go_wp2_with fail
  refine (hI _).out.mono ?_
  rintro e w2 ⟨rfl, hw⟩
  subst hw
  have hb02 := hb1
  have hA2 := hA1
  clear hI hA1 hb1
  go_wp2_with fail
  refine (hF _ hA2).out.mono ?_
  rintro e w3 ⟨rfl, hw⟩
  subst hw
  clear hF
  go_wp2
  go_ret
  exact ⟨rfl, hb02⟩

set_option maxHeartbeats 4000000 in
theorem grows_hd (A : Option Addr) (c : Nat) (l : List Bytes) (a b : Nat) (B : Option Addr) (d : Nat) (p : List Nat) (w : World) (hm : l.length ≤ maxLen) (hl : ∀ s ∈ l, s.length ≤ maxLen) (hA : Row w A (scells l))
    (m : Int) (hf : rfault l = 0) (h0 : ¬ m < 1) (h1 : (l.length : Int) < m) (k n : Int) (k2 : ¬ n < 1) (k3 : ¬ 40 < n) (k6 : ¬ k < 1) (k0 : n < k) :
    Calls Try.prog 4 #[.slice A l.length c, .int .i64 m, .int .u64 (a : Int), .int .u64 (b : Int), .int .i64 k, .int .i64 n, .slice B p.length d] w fun e w' => e = .returned (.bool true) ∧ Below w.heap.size w w' := by
  have hG := fun w hA => Lib.hid (rollGrew_no A c l m w hm hl hA 4 (by unfold grewErr; rw [hf, if_neg (by simp), if_pos (.inr h1)]) (by decide))
  have hF := fun w hA => Lib.hid (refRollFault A c l w hm hl hA 0 hf)
  have g1 : decide (m < 1) = false := decide_eq_false h0
  clear hf h0
  have hI := fun w => Lib.hid (rollIsGrown_no a b k n B p.length d w 4 (by unfold isgErr; rw [if_pos (.inr (.inr (.inr k0)))]) (by decide))
  have k4 : decide (n < 1) = false := decide_eq_false k2
  have k5 : decide (40 < n) = false := decide_eq_false k3
  have k7 : decide (k < 1) = false := decide_eq_false k6
  clear k2 k3 k6
  unfold maxLen at hm
  clear hl
  go_enter Try.func4, Try.ntmps4
  go_wp2_with fail
  refine (hG _ hA).out.mono ?_
  rintro e w1 ⟨rfl, hw⟩
  subst hw
  have hA1 := hA
  have hb1 := Below.refl w.heap.size w
  clear hG hA
  go_wp2_with fail
  refine (hI _).out.mono ?_
  rintro e w2 ⟨rfl, hw⟩
  subst hw
  have hb02 := hb1
  have hA2 := hA1
  clear hI hA1 hb1
  go_wp2_with fail
  refine (hF _ hA2).out.mono ?_
  rintro e w3 ⟨rfl, hw⟩
  subst hw
  clear hF
  go_wp2
  go_ret
  exact ⟨rfl, hb02⟩

set_option maxHeartbeats 4000000 in
theorem grows_he (A : Option Addr) (c : Nat) (l : List Bytes) (a b : Nat) (B : Option Addr) (d : Nat) (p : List Nat) (w : World) (hm : l.length ≤ maxLen) (hl : ∀ s ∈ l, s.length ≤ maxLen) (hA : Row w A (scells l)) (ha : a < 18446744073709551616) (hp : ∀ z ∈ p, z < 18446744073709551616) (hpm : p.length ≤ maxLen) (hd : p.length ≤ d) (hdm : d ≤ maxLen) (hB : Row w B (mcells p))
    (m : Int) (hf : rfault l = 0) (h0 : ¬ m < 1) (h1 : (l.length : Int) < m) (k n : Nat) (k1 : 1 ≤ k) (k2 : n ≤ 40) (k3 : k ≤ n) :
    Calls Try.prog 4 #[.slice A l.length c, .int .i64 m, .int .u64 (a : Int), .int .u64 (b : Int), .int .i64 (k : Int), .int .i64 (n : Int), .slice B p.length d] w fun e w' => e = .returned (.bool true) ∧ Below w.heap.size w w' := by
  have hG := fun w hA => Lib.hid (rollGrew_no A c l m w hm hl hA 4 (by unfold grewErr; rw [hf, if_neg (by simp), if_pos (.inr h1)]) (by decide))
  have hF := fun w hA => Lib.hid (refRollFault A c l w hm hl hA 0 hf)
  have g1 : decide (m < 1) = false := decide_eq_false h0
  clear hf h0
  obtain ⟨u, hu⟩ : ∃ u, isgAns a k b n p = u := ⟨_, rfl⟩
  have hI := fun w hB => Lib.hid (rollIsGrown_yes a b k n p B d p.length w k1 k2 k3 ha hp rfl hd hdm hB u hu)
  have hV := fun w hB => Lib.hid (refRollGrown a b n k p B d w k1 k2 k3 ha hpm hd hp hB u hu)
  have k4 : decide ((n : Int) < 1) = false := decide_eq_false (by omega)
  have k5 : decide ((40 : Int) < (n : Int)) = false := decide_eq_false (by omega)
  have k6 : decide ((k : Int) < 1) = false := decide_eq_false (by omega)
  have k7 : decide (n < k) = false := decide_eq_false (by omega)
  have k8 : ¬ n < k := by omega
  clear hu k1 k2 k3
  unfold maxLen at hm hpm
  clear hl hp hd hdm ha
  go_enter Try.func4, Try.ntmps4
  go_wp2_with fail
  refine (hG _ hA).out.mono ?_
  rintro e w1 ⟨rfl, hw⟩
  subst hw
  have hA1 := hA
  have hb1 := Below.refl w.heap.size w
  have hB1 := hB
  clear hG hA hB
  go_wp2_with fail
  refine (hI _ hB1).out.mono ?_
  rintro e w2 ⟨rfl, hb2⟩
  have hb02 := below_chain hb1 hb2
  have hA2 := hA1.below hb2
  have hB2 := hB1.below hb2
  clear hI hA1 hB1 hb1 hb2
  go_wp2_with fail
  refine (hF _ hA2).out.mono ?_
  rintro e w3 ⟨rfl, hw⟩
  subst hw
  clear hF
  go_wp2_with fail
  refine (hV _ hB2).out.mono ?_
  rintro e w6 ⟨rfl, hb6⟩
  go_wp2
  go_ret
  exact ⟨by simp, below_chain hb02 hb6⟩

set_option maxHeartbeats 4000000 in
theorem grows_oa (A : Option Addr) (c : Nat) (l : List Bytes) (a b : Nat) (B : Option Addr) (d : Nat) (p : List Nat) (w : World) (hm : l.length ≤ maxLen) (hl : ∀ s ∈ l, s.length ≤ maxLen) (hA : Row w A (scells l)) (hc : l.length ≤ c)
    (m : Nat) (hg : RGood l) (h0 : 1 ≤ m) (h1 : m ≤ l.length) (k n : Int) (k0 : n < 1) :
    Calls Try.prog 4 #[.slice A l.length c, .int .i64 (m : Int), .int .u64 (a : Int), .int .u64 (b : Int), .int .i64 k, .int .i64 n, .slice B p.length d] w fun e w' => e = .returned (.bool true) ∧ Below w.heap.size w w' := by
  have hG := fun w hA => Lib.hid (rollGrew_yes A c l m w hg hc h0 h1 hA)
  have hF := fun w hA => Lib.hid (refRollFault A c l w hm hl hA 0 ((rfault_ok l).2 hg))
  have hR := fun w hA => Lib.hid (refRollGrew A c l m w hg h0 h1 hA)
  have hLl : (grw l m true).length ≤ maxLen := Nat.le_trans (grw_le _ _ _ h0) (by have := hg.le; unfold maxLen; omega)
  have hE := fun D E d e w hD hE' => Lib.hid (eqMarks D E d e (grw l m true) (grw l m true) w hLl true (decide_eq_true rfl) hD hE')
  have g1 : decide ((m : Int) < 1) = false := decide_eq_false (by omega)
  have g2 : decide (l.length < m) = false := decide_eq_false (by omega)
  have g3 : ¬ l.length < m := by omega
  generalize grw l m true = L at *
  have hLL : ((L.length : Int)) = ((L.length : Int)) := rfl
  clear hg h0 hLL
  have hI := fun w => Lib.hid (rollIsGrown_no a b k n B p.length d w 4 (by unfold isgErr; rw [if_pos (.inl k0)]) (by decide))
  unfold maxLen at hm
  clear hl hc
  go_enter Try.func4, Try.ntmps4
  go_wp2_with fail
  refine (hG _ hA).out.mono ?_
  rintro e w1 ⟨D, dd, rfl, hown, hb1⟩
  have hA1 := hA.below hb1
  have hD1 := Row.own hown
  clear hG hA hown
  go_wp2_with fail
  refine (hI _).out.mono ?_
  rintro e w2 ⟨rfl, hw⟩
  subst hw
  have hb02 := hb1
  have hA2 := hA1
  have hD2 := hD1
  clear hD1
  clear hI hA1 hb1
  go_wp2_with fail
  refine (hF _ hA2).out.mono ?_
  rintro e w3 ⟨rfl, hw⟩
  subst hw
  clear hF
  go_wp2_with fail
  refine (hR _ hA2).out.mono ?_
  rintro e w4 ⟨E, ee, rfl, hown, hb4⟩
  have hD4 := hD2.below hb4
  have hE4 := Row.own hown
  have hb04 := below_chain hb02 hb4
  clear hR hown hb02 hb4 hD2 hA2
  go_wp2_with fail
  refine (hE D E dd ee _ hD4 hE4).out.mono ?_
  rintro e w5 ⟨rfl, mm, rfl⟩
  have hb05 := below_drewN hb04 mm
  clear hE hD4 hE4 hb04
  go_wp2
  go_ret
  exact ⟨rfl, hb05⟩

set_option maxHeartbeats 4000000 in
theorem grows_ob (A : Option Addr) (c : Nat) (l : List Bytes) (a b : Nat) (B : Option Addr) (d : Nat) (p : List Nat) (w : World) (hm : l.length ≤ maxLen) (hl : ∀ s ∈ l, s.length ≤ maxLen) (hA : Row w A (scells l)) (hc : l.length ≤ c)
    (m : Nat) (hg : RGood l) (h0 : 1 ≤ m) (h1 : m ≤ l.length) (k n : Int) (k0 : 40 < n) :
    Calls Try.prog 4 #[.slice A l.length c, .int .i64 (m : Int), .int .u64 (a : Int), .int .u64 (b : Int), .int .i64 k, .int .i64 n, .slice B p.length d] w fun e w' => e = .returned (.bool true) ∧ Below w.heap.size w w' := by
  have hG := fun w hA => Lib.hid (rollGrew_yes A c l m w hg hc h0 h1 hA)
  have hF := fun w hA => Lib.hid (refRollFault A c l w hm hl hA 0 ((rfault_ok l).2 hg))
  have hR := fun w hA => Lib.hid (refRollGrew A c l m w hg h0 h1 hA)
  have hLl : (grw l m true).length ≤ maxLen := Nat.le_trans (grw_le _ _ _ h0) (by have := hg.le; unfold maxLen; omega)
  have hE := fun D E d e w hD hE' => Lib.hid (eqMarks D E d e (grw l m true) (grw l m true) w hLl true (decide_eq_true rfl) hD hE')
  have g1 : decide ((m : Int) < 1) = false := decide_eq_false (by omega)
  have g2 : decide (l.length < m) = false := decide_eq_false (by omega)
  have g3 : ¬ l.length < m := by omega
  generalize grw l m true = L at *
  have hLL : ((L.length : Int)) = ((L.length : Int)) := rfl
  clear hg h0 hLL
  have hI := fun w => Lib.hid (rollIsGrown_no a b k n B p.length d w 4 (by unfold isgErr; rw [if_pos (.inr (.inl k0))]) (by decide))
  have k1 : decide (n < 1) = false := decide_eq_false (by omega)
  unfold maxLen at hm
  clear hl hc
  go_enter Try.func4, Try.ntmps4
  go_wp2_with fail
  refine (hG _ hA).out.mono ?_
  rintro e w1 ⟨D, dd, rfl, hown, hb1⟩
  have hA1 := hA.below hb1
  have hD1 := Row.own hown
  clear hG hA hown
  go_wp2_with fail
  refine (hI _).out.mono ?_
  rintro e w2 ⟨rfl, hw⟩
  subst hw
  have hb02 := hb1
  have hA2 := hA1
  have hD2 := hD1
  clear hD1
  clear hI hA1 hb1
  go_wp2_with fail
  refine (hF _ hA2).out.mono ?_
  rintro e w3 ⟨rfl, hw⟩
  subst hw
  clear hF
  go_wp2_with fail
  refine (hR _ hA2).out.mono ?_
  rintro e w4 ⟨E, ee, rfl, hown, hb4⟩
  have hD4 := hD2.below hb4
  have hE4 := Row.own hown
  have hb04 := below_chain hb02 hb4
  clear hR hown hb02 hb4 hD2 hA2
  go_wp2_with fail
  refine (hE D E dd ee _ hD4 hE4).out.mono ?_
  rintro e w5 ⟨rfl, mm, rfl⟩
  have hb05 := below_drewN hb04 mm
  clear hE hD4 hE4 hb04
  go_wp2
  go_ret
  exact ⟨rfl, hb05⟩

set_option maxHeartbeats 4000000 in
theorem grows_oc (A : Option Addr) (c : Nat) (l : List Bytes) (a b : Nat) (B : Option Addr) (d : Nat) (p : List Nat) (w : World) (hm : l.length ≤ maxLen) (hl : ∀ s ∈ l, s.length ≤ maxLen) (hA : Row w A (scells l)) (hc : l.length ≤ c)
    (m : Nat) (hg : RGood l) (h0 : 1 ≤ m) (h1 : m ≤ l.length) (k n : Int) (k2 : ¬ n < 1) (k3 : ¬ 40 < n) (k0 : k < 1) :
    Calls Try.prog 4 #[.slice A l.length c, .int .i64 (m : Int), .int .u64 (a : Int), .int .u64 (b : Int), .int .i64 k, .int .i64 n, .slice B p.length d] w fun e w' => e = .returned (.bool true) ∧ Below w.heap.size w w' := by
  have hG := fun w hA => Lib.hid (rollGrew_yes A c l m w hg hc h0 h1 hA)
  have hF := fun w hA => Lib.hid (refRollFault A c l w hm hl hA 0 ((rfault_ok l).2 hg))
  have hR := fun w hA => Lib.hid (refRollGrew A c l m w hg h0 h1 hA)
  have hLl : (grw l m true).length ≤ maxLen := Nat.le_trans (grw_le _ _ _ h0) (by have := hg.le; unfold maxLen; omega)
  have hE := fun D E d e w hD hE' => Lib.hid (eqMarks D E d e (grw l m true) (grw l m true) w hLl true (decide_eq_true rfl) hD hE')
  have g1 : decide ((m : Int) < 1) = false := decide_eq_false (by omega)
  have g2 : decide (l.length < m) = false := decide_eq_false (by omega)
  have g3 : ¬ l.length < m := by omega
  generalize grw l m true = L at *
  have hLL : ((L.length : Int)) = ((L.length : Int)) := rfl
  clear hg h0 hLL
  have hI := fun w => Lib.hid (rollIsGrown_no a b k n B p.length d w 4 (by unfold isgErr; rw [if_pos (.inr (.inr (.inl k0)))]) (by decide))
  have k4 : decide (n < 1) = false := decide_eq_false k2
  have k5 : decide (40 < n) = false := decide_eq_false k3
  clear k2 k3
  unfold maxLen at hm
  clear hl hc
  go_enter Try.func4, Try.ntmps4
  go_wp2_with fail
  refine (hG _ hA).out.mono ?_
  rintro e w1 ⟨D, dd, rfl, hown, hb1⟩
  have hA1 := hA.below hb1
  have hD1 := Row.own hown
  clear hG hA hown
  go_wp2_with fail
  refine (hI _).out.mono ?_
  rintro e w2 ⟨rfl, hw⟩
  subst hw
  have hb02 := hb1
  have hA2 := hA1
  have hD2 := hD1
  clear hD1
  clear hI hA1 hb1
  go_wp2_with fail
  refine (hF _ hA2).out.mono ?_
  rintro e w3 ⟨rfl, hw⟩
  subst hw
  clear hF
  go_wp2_with fail
  refine (hR _ hA2).out.mono ?_
  rintro e w4 ⟨E, ee, rfl, hown, hb4⟩
  have hD4 := hD2.below hb4
  have hE4 := Row.own hown
  have hb04 := below_chain hb02 hb4
  clear hR hown hb02 hb4 hD2 hA2
  go_wp2_with fail
  refine (hE D E dd ee _ hD4 hE4).out.mono ?_
  rintro e w5 ⟨rfl, mm, rfl⟩
  have hb05 := below_drewN hb04 mm
  clear hE hD4 hE4 hb04
  go_wp2
  go_ret
  exact ⟨rfl, hb05⟩

set_option maxHeartbeats 4000000 in
theorem grows_od (A : Option Addr) (c : Nat) (l : List Bytes) (a b : Nat) (B : Option Addr) (d : Nat) (p : List Nat) (w : World) (hm : l.length ≤ maxLen) (hl : ∀ s ∈ l, s.length ≤ maxLen) (hA : Row w A (scells l)) (hc : l.length ≤ c)
    (m : Nat) (hg : RGood l) (h0 : 1 ≤ m) (h1 : m ≤ l.length) (k n : Int) (k2 : ¬ n < 1) (k3 : ¬ 40 < n) (k6 : ¬ k < 1) (k0 : n < k) :
    Calls Try.prog 4 #[.slice A l.length c, .int .i64 (m : Int), .int .u64 (a : Int), .int .u64 (b : Int), .int .i64 k, .int .i64 n, .slice B p.length d] w fun e w' => e = .returned (.bool true) ∧ Below w.heap.size w w' := by
  have hG := fun w hA => Lib.hid (rollGrew_yes A c l m w hg hc h0 h1 hA)
  have hF := fun w hA => Lib.hid (refRollFault A c l w hm hl hA 0 ((rfault_ok l).2 hg))
  have hR := fun w hA => Lib.hid (refRollGrew A c l m w hg h0 h1 hA)
  have hLl : (grw l m true).length ≤ maxLen := Nat.le_trans (grw_le _ _ _ h0) (by have := hg.le; unfold maxLen; omega)
  have hE := fun D E d e w hD hE' => Lib.hid (eqMarks D E d e (grw l m true) (grw l m true) w hLl true (decide_eq_true rfl) hD hE')
  have g1 : decide ((m : Int) < 1) = false := decide_eq_false (by omega)
  have g2 : decide (l.length < m) = false := decide_eq_false (by omega)
  have g3 : ¬ l.length < m := by omega
  generalize grw l m true = L at *
  have hLL : ((L.length : Int)) = ((L.length : Int)) := rfl
  clear hg h0 hLL
  have hI := fun w => Lib.hid (rollIsGrown_no a b k n B p.length d w 4 (by unfold isgErr; rw [if_pos (.inr (.inr (.inr k0)))]) (by decide))
  have k4 : decide (n < 1) = false := decide_eq_false k2
  have k5 : decide (40 < n) = false := decide_eq_false k3
  have k7 : decide (k < 1) = false := decide_eq_false k6
  clear k2 k3 k6
  unfold maxLen at hm
  clear hl hc
  go_enter Try.func4, Try.ntmps4
  go_wp2_with fail
  refine (hG _ hA).out.mono ?_
  rintro e w1 ⟨D, dd, rfl, hown, hb1⟩
  have hA1 := hA.below hb1
  have hD1 := Row.own hown
  clear hG hA hown
  go_wp2_with fail
  refine (hI _).out.mono ?_
  rintro e w2 ⟨rfl, hw⟩
  subst hw
  have hb02 := hb1
  have hA2 := hA1
  have hD2 := hD1
  clear hD1
  clear hI hA1 hb1
  go_wp2_with fail
  refine (hF _ hA2).out.mono ?_
  rintro e w3 ⟨rfl, hw⟩
  subst hw
  clear hF
  go_wp2_with fail
  refine (hR _ hA2).out.mono ?_
  rintro e w4 ⟨E, ee, rfl, hown, hb4⟩
  have hD4 := hD2.below hb4
  have hE4 := Row.own hown
  have hb04 := below_chain hb02 hb4
  clear hR hown hb02 hb4 hD2 hA2
  go_wp2_with fail
  refine (hE D E dd ee _ hD4 hE4).out.mono ?_
  rintro e w5 ⟨rfl, mm, rfl⟩
  have hb05 := below_drewN hb04 mm
  clear hE hD4 hE4 hb04
  go_wp2
  go_ret
  exact ⟨rfl, hb05⟩

set_option maxHeartbeats 4000000 in
theorem grows_oe (A : Option Addr) (c : Nat) (l : List Bytes) (a b : Nat) (B : Option Addr) (d : Nat) (p : List Nat) (w : World) (hm : l.length ≤ maxLen) (hl : ∀ s ∈ l, s.length ≤ maxLen) (hA : Row w A (scells l)) (hc : l.length ≤ c) (ha : a < 18446744073709551616) (hp : ∀ z ∈ p, z < 18446744073709551616) (hpm : p.length ≤ maxLen) (hd : p.length ≤ d) (hdm : d ≤ maxLen) (hB : Row w B (mcells p))
    (m : Nat) (hg : RGood l) (h0 : 1 ≤ m) (h1 : m ≤ l.length) (k n : Nat) (k1 : 1 ≤ k) (k2 : n ≤ 40) (k3 : k ≤ n) :
    Calls Try.prog 4 #[.slice A l.length c, .int .i64 (m : Int), .int .u64 (a : Int), .int .u64 (b : Int), .int .i64 (k : Int), .int .i64 (n : Int), .slice B p.length d] w fun e w' => e = .returned (.bool true) ∧ Below w.heap.size w w' := by
  have hG := fun w hA => Lib.hid (rollGrew_yes A c l m w hg hc h0 h1 hA)
  have hF := fun w hA => Lib.hid (refRollFault A c l w hm hl hA 0 ((rfault_ok l).2 hg))
  have hR := fun w hA => Lib.hid (refRollGrew A c l m w hg h0 h1 hA)
  have hLl : (grw l m true).length ≤ maxLen := Nat.le_trans (grw_le _ _ _ h0) (by have := hg.le; unfold maxLen; omega)
  have hE := fun D E d e w hD hE' => Lib.hid (eqMarks D E d e (grw l m true) (grw l m true) w hLl true (decide_eq_true rfl) hD hE')
  have g1 : decide ((m : Int) < 1) = false := decide_eq_false (by omega)
  have g2 : decide (l.length < m) = false := decide_eq_false (by omega)
  have g3 : ¬ l.length < m := by omega
  generalize grw l m true = L at *
  have hLL : ((L.length : Int)) = ((L.length : Int)) := rfl
  clear hg h0 hLL
  obtain ⟨u, hu⟩ : ∃ u, isgAns a k b n p = u := ⟨_, rfl⟩
  have hI := fun w hB => Lib.hid (rollIsGrown_yes a b k n p B d p.length w k1 k2 k3 ha hp rfl hd hdm hB u hu)
  have hV := fun w hB => Lib.hid (refRollGrown a b n k p B d w k1 k2 k3 ha hpm hd hp hB u hu)
  have k4 : decide ((n : Int) < 1) = false := decide_eq_false (by omega)
  have k5 : decide ((40 : Int) < (n : Int)) = false := decide_eq_false (by omega)
  have k6 : decide ((k : Int) < 1) = false := decide_eq_false (by omega)
  have k7 : decide (n < k) = false := decide_eq_false (by omega)
  have k8 : ¬ n < k := by omega
  clear hu k1 k2 k3
  unfold maxLen at hm hpm
  clear hl hp hd hdm ha hc
  go_enter Try.func4, Try.ntmps4
  go_wp2_with fail
  refine (hG _ hA).out.mono ?_
  rintro e w1 ⟨D, dd, rfl, hown, hb1⟩
  have hA1 := hA.below hb1
  have hB1 := hB.below hb1
  have hD1 := Row.own hown
  clear hG hA hown hB
  go_wp2_with fail
  refine (hI _ hB1).out.mono ?_
  rintro e w2 ⟨rfl, hb2⟩
  have hb02 := below_chain hb1 hb2
  have hA2 := hA1.below hb2
  have hB2 := hB1.below hb2
  have hD2 := hD1.below hb2
  clear hD1
  clear hI hA1 hB1 hb1 hb2
  go_wp2_with fail
  refine (hF _ hA2).out.mono ?_
  rintro e w3 ⟨rfl, hw⟩
  subst hw
  clear hF
  go_wp2_with fail
  refine (hR _ hA2).out.mono ?_
  rintro e w4 ⟨E, ee, rfl, hown, hb4⟩
  have hD4 := hD2.below hb4
  have hE4 := Row.own hown
  have hB4 := hB2.below hb4
  have hb04 := below_chain hb02 hb4
  clear hR hown hb02 hb4 hD2 hA2
  go_wp2_with fail
  refine (hE D E dd ee _ hD4 hE4).out.mono ?_
  rintro e w5 ⟨rfl, mm, rfl⟩
  have hB5 := hB4.drewN mm
  have hb05 := below_drewN hb04 mm
  clear hE hD4 hE4 hb04
  go_wp2_with fail
  refine (hV _ hB5).out.mono ?_
  rintro e w6 ⟨rfl, hb6⟩
  go_wp2
  go_ret
  exact ⟨by simp, below_chain hb05 hb6⟩

theorem rollGrows_walk (A : Option Addr) (c : Nat) (l : List Bytes) (m : Int) (a b : Nat) (k n : Int) (B : Option Addr) (d : Nat) (p : List Nat) (w : World) (hm : l.length ≤ maxLen) (hl : ∀ s ∈ l, s.length ≤ maxLen) (hc : l.length ≤ c) (hA : Row w A (scells l)) (ha : a < 18446744073709551616) (hp : ∀ z ∈ p, z < 18446744073709551616) (hpm : p.length ≤ maxLen) (hd : p.length ≤ d) (hdm : d ≤ maxLen) (hB : Row w B (mcells p)) :
    Calls Try.prog 4 #[.slice A l.length c, .int .i64 m, .int .u64 (a : Int), .int .u64 (b : Int), .int .i64 k, .int .i64 n, .slice B p.length d] w fun e w' => e = .returned (.bool true) ∧ Below w.heap.size w w' := by
  by_cases hf : rfault l = 0
  · by_cases h0 : m < 1
    · skip
      by_cases k0 : n < 1
      · exact grows_la A c l a b B d p w hm hl hA m hf h0 k n k0
      by_cases k1 : 40 < n
      · exact grows_lb A c l a b B d p w hm hl hA m hf h0 k n k1
      by_cases k2 : k < 1
      · exact grows_lc A c l a b B d p w hm hl hA m hf h0 k n k0 k1 k2
      by_cases k3 : n < k
      · exact grows_ld A c l a b B d p w hm hl hA m hf h0 k n k0 k1 k2 k3
      obtain ⟨k, rfl⟩ : ∃ j : Nat, k = (j : Int) := ⟨k.toNat, by omega⟩
      obtain ⟨n, rfl⟩ : ∃ j : Nat, n = (j : Int) := ⟨n.toNat, by omega⟩
      exact grows_le A c l a b B d p w hm hl hA ha hp hpm hd hdm hB m hf h0 k n (by omega) (by omega) (by omega)
    · by_cases h1 : (l.length : Int) < m
      · skip
        by_cases k0 : n < 1
        · exact grows_ha A c l a b B d p w hm hl hA m hf h0 h1 k n k0
        by_cases k1 : 40 < n
        · exact grows_hb A c l a b B d p w hm hl hA m hf h0 h1 k n k1
        by_cases k2 : k < 1
        · exact grows_hc A c l a b B d p w hm hl hA m hf h0 h1 k n k0 k1 k2
        by_cases k3 : n < k
        · exact grows_hd A c l a b B d p w hm hl hA m hf h0 h1 k n k0 k1 k2 k3
        obtain ⟨k, rfl⟩ : ∃ j : Nat, k = (j : Int) := ⟨k.toNat, by omega⟩
        obtain ⟨n, rfl⟩ : ∃ j : Nat, n = (j : Int) := ⟨n.toNat, by omega⟩
        exact grows_he A c l a b B d p w hm hl hA ha hp hpm hd hdm hB m hf h0 h1 k n (by omega) (by omega) (by omega)
      · obtain ⟨m, rfl⟩ : ∃ j : Nat, m = (j : Int) := ⟨m.toNat, by omega⟩
        have hg := (rfault_ok l).1 hf
        by_cases k0 : n < 1
        · exact grows_oa A c l a b B d p w hm hl hA hc m hg (by omega) (by omega) k n k0
        by_cases k1 : 40 < n
        · exact grows_ob A c l a b B d p w hm hl hA hc m hg (by omega) (by omega) k n k1
        by_cases k2 : k < 1
        · exact grows_oc A c l a b B d p w hm hl hA hc m hg (by omega) (by omega) k n k0 k1 k2
        by_cases k3 : n < k
        · exact grows_od A c l a b B d p w hm hl hA hc m hg (by omega) (by omega) k n k0 k1 k2 k3
        obtain ⟨k, rfl⟩ : ∃ j : Nat, k = (j : Int) := ⟨k.toNat, by omega⟩
        obtain ⟨n, rfl⟩ : ∃ j : Nat, n = (j : Int) := ⟨n.toNat, by omega⟩
        exact grows_oe A c l a b B d p w hm hl hA hc ha hp hpm hd hdm hB m hg (by omega) (by omega) k n (by omega) (by omega) (by omega)
  · skip
    by_cases k0 : n < 1
    · exact grows_fa A c l a b B d p w hm hl hA m _ rfl hf k n k0
    by_cases k1 : 40 < n
    · exact grows_fb A c l a b B d p w hm hl hA m _ rfl hf k n k1
    by_cases k2 : k < 1
    · exact grows_fc A c l a b B d p w hm hl hA m _ rfl hf k n k0 k1 k2
    by_cases k3 : n < k
    · exact grows_fd A c l a b B d p w hm hl hA m _ rfl hf k n k0 k1 k2 k3
    obtain ⟨k, rfl⟩ : ∃ j : Nat, k = (j : Int) := ⟨k.toNat, by omega⟩
    obtain ⟨n, rfl⟩ : ∃ j : Nat, n = (j : Int) := ⟨n.toNat, by omega⟩
    exact grows_fe A c l a b B d p w hm hl hA ha hp hpm hd hdm hB m _ rfl hf k n (by omega) (by omega) (by omega)

set_option maxRecDepth 100000 in
theorem rollGrows_lifted (os : Os) (started : os.Started) (H : Type) (enc : TypeId × Value → H) :
    ReturnsInHanded {} Try.checked os 4 .any (Rows.rollGrowsSpec.pre6 enc Try.prog Try.f4 Rows.rollGrowsRow.domain false) (Rows.rollGrowsSpec.post enc Try.prog Try.f4 false true false false) := by
  refine returnsInHanded_of_change (C := Try.checked) own started (by kernel_rfl) Try.func4
    (ChangeSpec.witness6 (enc := enc) (C := Try.checked) false ⟨#[], #[.slice none 0 0, .int .i64 0, .int .u64 0, .int .u64 0, .int .i64 0, .int .i64 0, .slice none 0 0], []⟩ 8 (by kernel_rfl) (by kernel_rfl) (by kernel_rfl) (by kernel_rfl)) ?_
  intro W base args ds gs before hval0 hW hcnd _
  have hval : ∀ (j : Nat) t v, Try.f4.params[j]? = some t → args[j]? = some v → Value.okWide Try.prog W .any base t v := hval0
  have hW' := hW
  obtain ⟨p, q, hA0, hV, rfl, hfz, hnd⟩ := hW
  have hA : DataW.TrodAll enc Try.prog W 0 (fun _ => true) true Try.f4.params.toList args.toList ds p := hA0
  rw [Try.params4] at hA hval
  obtain ⟨v0, vs0, d0, ds0, p0, q0, hargs, rfl, rfl, h0, r0⟩ := trodAll_cons hA
  obtain ⟨v1, vs1, d1, ds1, p1, q1, rfl, rfl, rfl, h1, r1⟩ := trodAll_cons r0
  obtain ⟨v2, vs2, d2, ds2, p2, q2, rfl, rfl, rfl, h2, r2⟩ := trodAll_cons r1
  obtain ⟨v3, vs3, d3, ds3, p3, q3, rfl, rfl, rfl, h3, r3⟩ := trodAll_cons r2
  obtain ⟨v4, vs4, d4, ds4, p4, q4, rfl, rfl, rfl, h4, r4⟩ := trodAll_cons r3
  obtain ⟨v5, vs5, d5, ds5, p5, q5, rfl, rfl, rfl, h5, r5⟩ := trodAll_cons r4
  obtain ⟨v6, vs6, d6, ds6, p6, q6, rfl, rfl, rfl, h6, r6⟩ := trodAll_cons r5
  obtain ⟨rfl, rfl, rfl⟩ := trodAll_nil r6
  obtain rfl : args = #[v0, v1, v2, v3, v4, v5, v6] := by cases args; simp_all
  obtain ⟨rfl, rfl⟩ := trodVars_none hV
  obtain ⟨A0, c0, s0, rfl, hm0, hr0, hs0, hc0⟩ := arg_strsC (hval 0 22 v0 rfl rfl) h0
  obtain ⟨x1, rfl, hx1, hy1⟩ := arg_i64 (hval 1 3 v1 rfl rfl) h1
  obtain ⟨n2, rfl, hn2⟩ := arg_u64 (hval 2 23 v2 rfl rfl) h2
  obtain ⟨n3, rfl, hn3⟩ := arg_u64 (hval 3 23 v3 rfl rfl) h3
  obtain ⟨x4, rfl, hx4, hy4⟩ := arg_i64 (hval 4 3 v4 rfl rfl) h4
  obtain ⟨x5, rfl, hx5, hy5⟩ := arg_i64 (hval 5 3 v5 rfl rfl) h5
  obtain ⟨A6, c6, s6, rfl, hm6, hr6, hs6, hc6, hx6⟩ := arg_marksC (hval 6 24 v6 rfl rfl) h6
  refine (rollGrows_walk A0 c0 s0 x1 n2 n3 x4 x5 A6 c6 s6 _ hm0 hs0 hc0 hr0 hn2 hs6 hm6 hc6 hx6 hr6).mono fun e W' ⟨he, hb⟩ => ?_
  subst he
  exact ⟨_, rfl, post_law laidOut (by decide +kernel) rfl Try.underlying4 (by kernel_rfl) hW' rfl hb⟩

/-- The statement. -/
theorem rollGrows_said : Rows.RollGrowsSaid :=
  OpenClaim.holds_of_wide 4 Try.f4 rfl rfl rfl rfl rfl rfl rfl ⟨rfl, rfl, rfl, rfl, rfl⟩ rfl rfl rfl rfl rfl (by kernel_rfl) Try.func4 (by kernel_rfl)
    (of_decide_eq_true (by kernel_rfl)) (by unfold Func.isWrapper; first | (rw [if_pos (by decide +kernel)]; kernel_rfl) | (rw [if_neg (by decide +kernel)]; exact ⟨rfl, rfl⟩))
    (fun os started H enc _ => rollGrows_lifted os started H enc)
#print axioms rollGrows_said
end Go.Proofs.Ytlobpjpkldmnaaa
