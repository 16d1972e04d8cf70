/- RollTells: whatever is handed in, Root, In and IsIn answer what the reference answers. -/
import Derived.Test.YtlobpjpkldmnaaaRollIn
import Derived.Test.YtlobpjpkldmnaaaRollVerify
import Derived.Test.YtlobpjpkldmnaaaRefRollIn
import Derived.Test.YtlobpjpkldmnaaaRefRollMade
import Derived.Test.YtlobpjpkldmnaaaRollArgs
namespace Go.Proofs.Ytlobpjpkldmnaaa
set_option maxRecDepth 100000
open Go.ChangeShapes Go.WideShapes Go.ChangeAt Go.RowKit

set_option maxHeartbeats 4000000 in
theorem tells_fa (A : Option Addr) (c : Nat) (l : List Bytes) (root : Nat) (t : Bytes) (B : Option Addr) (d : Nat) (p : List Nat) (w : World) (hm : l.length ≤ maxLen) (hl : ∀ s ∈ l, s.length ≤ maxLen) (hA : Row w A (scells l)) (ht : t.length ≤ maxLen)
    (i : Int) (r : Int) (hf : rfault l = r) (h0 : r ≠ 0) (n : Int) (k0 : n < 1) :
    Calls Try.prog 3 #[.slice A l.length c, .int .i64 i, .int .u64 (root : Int), .int .i64 n, .string (S t), .slice B p.length d] w fun e w' => e = .returned (.bool true) ∧ Below w.heap.size w w' := by
  have hRt := fun w hA => Lib.hid (rollRoot_no A c l w hm hl hA r hf h0)
  have hIn := fun w hA => Lib.hid (rollIn_no A c l i w hm hl hA r (by unfold inErr; rw [hf, if_pos h0]) h0)
  have hF := fun w hA => Lib.hid (refRollFault A c l w hm hl hA r hf)
  have g1 : (r == 0) = false := beq_eq_false_iff_ne.2 h0
  have g2 : (r != 0) = true := bne_iff_ne.2 h0
  clear hf
  have hI := fun w => Lib.hid (rollIsIn_no root n i t B p.length d w ht 4 (by unfold isErr; rw [if_pos (.inl k0)]) (by decide))
  unfold maxLen at hm ht
  clear hl
  go_enter Try.func3, Try.ntmps3
  go_wp2_with fail
  refine (hRt _ hA).out.mono ?_
  rintro e w1 ⟨rfl, hw⟩
  subst hw
  clear hRt
  have hb1 := Below.refl w.heap.size w
  have hA1 := hA
  clear hA
  go_wp2_with fail
  refine (hIn _ hA1).out.mono ?_
  rintro e w2 ⟨rfl, hw⟩
  subst hw
  have hA2 := hA1
  have hb02 := hb1
  clear hIn hb1 hA1
  go_wp2_with fail
  refine (hI _).out.mono ?_
  rintro e w3 ⟨rfl, hw⟩
  subst hw
  have hA3 := hA2
  have hb03 := hb02
  clear hI hA2 hb02
  go_wp2_with fail
  refine (hF _ hA3).out.mono ?_
  rintro e w4 ⟨rfl, hw⟩
  subst hw
  clear hF
  go_wp2
  go_ret
  exact ⟨rfl, hb03⟩

set_option maxHeartbeats 4000000 in
theorem tells_fb (A : Option Addr) (c : Nat) (l : List Bytes) (root : Nat) (t : Bytes) (B : Option Addr) (d : Nat) (p : List Nat) (w : World) (hm : l.length ≤ maxLen) (hl : ∀ s ∈ l, s.length ≤ maxLen) (hA : Row w A (scells l)) (ht : t.length ≤ maxLen)
    (i : Int) (r : Int) (hf : rfault l = r) (h0 : r ≠ 0) (n : Int) (k0 : 40 < n) :
    Calls Try.prog 3 #[.slice A l.length c, .int .i64 i, .int .u64 (root : Int), .int .i64 n, .string (S t), .slice B p.length d] w fun e w' => e = .returned (.bool true) ∧ Below w.heap.size w w' := by
  have hRt := fun w hA => Lib.hid (rollRoot_no A c l w hm hl hA r hf h0)
  have hIn := fun w hA => Lib.hid (rollIn_no A c l i w hm hl hA r (by unfold inErr; rw [hf, if_pos h0]) h0)
  have hF := fun w hA => Lib.hid (refRollFault A c l w hm hl hA r hf)
  have g1 : (r == 0) = false := beq_eq_false_iff_ne.2 h0
  have g2 : (r != 0) = true := bne_iff_ne.2 h0
  clear hf
  have hI := fun w => Lib.hid (rollIsIn_no root n i t B p.length d w ht 4 (by unfold isErr; rw [if_pos (.inr (.inl k0))]) (by decide))
  have k1 : decide (n < 1) = false := decide_eq_false (by omega)
  unfold maxLen at hm ht
  clear hl
  go_enter Try.func3, Try.ntmps3
  go_wp2_with fail
  refine (hRt _ hA).out.mono ?_
  rintro e w1 ⟨rfl, hw⟩
  subst hw
  clear hRt
  have hb1 := Below.refl w.heap.size w
  have hA1 := hA
  clear hA
  go_wp2_with fail
  refine (hIn _ hA1).out.mono ?_
  rintro e w2 ⟨rfl, hw⟩
  subst hw
  have hA2 := hA1
  have hb02 := hb1
  clear hIn hb1 hA1
  go_wp2_with fail
  refine (hI _).out.mono ?_
  rintro e w3 ⟨rfl, hw⟩
  subst hw
  have hA3 := hA2
  have hb03 := hb02
  clear hI hA2 hb02
  go_wp2_with fail
  refine (hF _ hA3).out.mono ?_
  rintro e w4 ⟨rfl, hw⟩
  subst hw
  clear hF
  go_wp2
  go_ret
  exact ⟨rfl, hb03⟩

set_option maxHeartbeats 4000000 in
theorem tells_fc (A : Option Addr) (c : Nat) (l : List Bytes) (root : Nat) (t : Bytes) (B : Option Addr) (d : Nat) (p : List Nat) (w : World) (hm : l.length ≤ maxLen) (hl : ∀ s ∈ l, s.length ≤ maxLen) (hA : Row w A (scells l)) (ht : t.length ≤ maxLen)
    (i : Int) (r : Int) (hf : rfault l = r) (h0 : r ≠ 0) (n : Int) (k2 : ¬ n < 1) (k3 : ¬ 40 < n) (k0 : i < 0) :
    Calls Try.prog 3 #[.slice A l.length c, .int .i64 i, .int .u64 (root : Int), .int .i64 n, .string (S t), .slice B p.length d] w fun e w' => e = .returned (.bool true) ∧ Below w.heap.size w w' := by
  have hRt := fun w hA => Lib.hid (rollRoot_no A c l w hm hl hA r hf h0)
  have hIn := fun w hA => Lib.hid (rollIn_no A c l i w hm hl hA r (by unfold inErr; rw [hf, if_pos h0]) h0)
  have hF := fun w hA => Lib.hid (refRollFault A c l w hm hl hA r hf)
  have g1 : (r == 0) = false := beq_eq_false_iff_ne.2 h0
  have g2 : (r != 0) = true := bne_iff_ne.2 h0
  clear hf
  have hI := fun w => Lib.hid (rollIsIn_no root n i t B p.length d w ht 4 (by unfold isErr; rw [if_pos (.inr (.inr (.inl k0)))]) (by decide))
  have k7 : decide (n < 1) = false := decide_eq_false k2
  have k8 : decide (40 < n) = false := decide_eq_false k3
  unfold maxLen at hm ht
  clear hl
  go_enter Try.func3, Try.ntmps3
  go_wp2_with fail
  refine (hRt _ hA).out.mono ?_
  rintro e w1 ⟨rfl, hw⟩
  subst hw
  clear hRt
  have hb1 := Below.refl w.heap.size w
  have hA1 := hA
  clear hA
  go_wp2_with fail
  refine (hIn _ hA1).out.mono ?_
  rintro e w2 ⟨rfl, hw⟩
  subst hw
  have hA2 := hA1
  have hb02 := hb1
  clear hIn hb1 hA1
  go_wp2_with fail
  refine (hI _).out.mono ?_
  rintro e w3 ⟨rfl, hw⟩
  subst hw
  have hA3 := hA2
  have hb03 := hb02
  clear hI hA2 hb02
  go_wp2_with fail
  refine (hF _ hA3).out.mono ?_
  rintro e w4 ⟨rfl, hw⟩
  subst hw
  clear hF
  go_wp2
  go_ret
  exact ⟨rfl, hb03⟩

set_option maxHeartbeats 4000000 in
theorem tells_fd (A : Option Addr) (c : Nat) (l : List Bytes) (root : Nat) (t : Bytes) (B : Option Addr) (d : Nat) (p : List Nat) (w : World) (hm : l.length ≤ maxLen) (hl : ∀ s ∈ l, s.length ≤ maxLen) (hA : Row w A (scells l)) (ht : t.length ≤ maxLen)
    (i : Int) (r : Int) (hf : rfault l = r) (h0 : r ≠ 0) (n : Int) (k2 : ¬ n < 1) (k3 : ¬ 40 < n) (k4 : ¬ i < 0) (k0 : n ≤ i) :
    Calls Try.prog 3 #[.slice A l.length c, .int .i64 i, .int .u64 (root : Int), .int .i64 n, .string (S t), .slice B p.length d] w fun e w' => e = .returned (.bool true) ∧ Below w.heap.size w w' := by
  have hRt := fun w hA => Lib.hid (rollRoot_no A c l w hm hl hA r hf h0)
  have hIn := fun w hA => Lib.hid (rollIn_no A c l i w hm hl hA r (by unfold inErr; rw [hf, if_pos h0]) h0)
  have hF := fun w hA => Lib.hid (refRollFault A c l w hm hl hA r hf)
  have g1 : (r == 0) = false := beq_eq_false_iff_ne.2 h0
  have g2 : (r != 0) = true := bne_iff_ne.2 h0
  clear hf
  have hI := fun w => Lib.hid (rollIsIn_no root n i t B p.length d w ht 4 (by unfold isErr; rw [if_pos (.inr (.inr (.inr k0)))]) (by decide))
  have k7 : decide (n < 1) = false := decide_eq_false k2
  have k8 : decide (40 < n) = false := decide_eq_false k3
  have k9 : decide (i < 0) = false := decide_eq_false (by omega)
  have k10 : decide (n ≤ i) = true := decide_eq_true k0
  unfold maxLen at hm ht
  clear hl
  go_enter Try.func3, Try.ntmps3
  go_wp2_with fail
  refine (hRt _ hA).out.mono ?_
  rintro e w1 ⟨rfl, hw⟩
  subst hw
  clear hRt
  have hb1 := Below.refl w.heap.size w
  have hA1 := hA
  clear hA
  go_wp2_with fail
  refine (hIn _ hA1).out.mono ?_
  rintro e w2 ⟨rfl, hw⟩
  subst hw
  have hA2 := hA1
  have hb02 := hb1
  clear hIn hb1 hA1
  go_wp2_with fail
  refine (hI _).out.mono ?_
  rintro e w3 ⟨rfl, hw⟩
  subst hw
  have hA3 := hA2
  have hb03 := hb02
  clear hI hA2 hb02
  go_wp2_with fail
  refine (hF _ hA3).out.mono ?_
  rintro e w4 ⟨rfl, hw⟩
  subst hw
  clear hF
  go_wp2
  go_ret
  exact ⟨rfl, hb03⟩

set_option maxHeartbeats 4000000 in
theorem tells_ft (A : Option Addr) (c : Nat) (l : List Bytes) (root : Nat) (t : Bytes) (B : Option Addr) (d : Nat) (p : List Nat) (w : World) (hm : l.length ≤ maxLen) (hl : ∀ s ∈ l, s.length ≤ maxLen) (hA : Row w A (scells l)) (ht : t.length ≤ maxLen)
    (i : Int) (r : Int) (hf : rfault l = r) (h0 : r ≠ 0) (n : Int) (k2 : ¬ n < 1) (k3 : ¬ 40 < n) (k4 : ¬ i < 0) (k5 : ¬ n ≤ i) (k0 : 40 < t.length) :
    Calls Try.prog 3 #[.slice A l.length c, .int .i64 i, .int .u64 (root : Int), .int .i64 n, .string (S t), .slice B p.length d] w fun e w' => e = .returned (.bool true) ∧ Below w.heap.size w w' := by
  have hRt := fun w hA => Lib.hid (rollRoot_no A c l w hm hl hA r hf h0)
  have hIn := fun w hA => Lib.hid (rollIn_no A c l i w hm hl hA r (by unfold inErr; rw [hf, if_pos h0]) h0)
  have hF := fun w hA => Lib.hid (refRollFault A c l w hm hl hA r hf)
  have g1 : (r == 0) = false := beq_eq_false_iff_ne.2 h0
  have g2 : (r != 0) = true := bne_iff_ne.2 h0
  clear hf
  have hI := fun w => Lib.hid (rollIsIn_no root n i t B p.length d w ht 2 (by unfold isErr; rw [if_neg (by omega), if_pos k0]) (by decide))
  have k7 : decide (n < 1) = false := decide_eq_false k2
  have k8 : decide (40 < n) = false := decide_eq_false k3
  have k9 : decide (i < 0) = false := decide_eq_false (by omega)
  have k10 : decide (n ≤ i) = false := decide_eq_false k5
  have k11 : decide ((40 : Int) < (t.length : Int)) = true := decide_eq_true (by omega)
  unfold maxLen at hm ht
  clear hl
  go_enter Try.func3, Try.ntmps3
  go_wp2_with fail
  refine (hRt _ hA).out.mono ?_
  rintro e w1 ⟨rfl, hw⟩
  subst hw
  clear hRt
  have hb1 := Below.refl w.heap.size w
  have hA1 := hA
  clear hA
  go_wp2_with fail
  refine (hIn _ hA1).out.mono ?_
  rintro e w2 ⟨rfl, hw⟩
  subst hw
  have hA2 := hA1
  have hb02 := hb1
  clear hIn hb1 hA1
  go_wp2_with fail
  refine (hI _).out.mono ?_
  rintro e w3 ⟨rfl, hw⟩
  subst hw
  have hA3 := hA2
  have hb03 := hb02
  clear hI hA2 hb02
  go_wp2_with fail
  refine (hF _ hA3).out.mono ?_
  rintro e w4 ⟨rfl, hw⟩
  subst hw
  clear hF
  go_wp2
  go_ret
  exact ⟨rfl, hb03⟩

set_option maxHeartbeats 4000000 in
theorem tells_fe (A : Option Addr) (c : Nat) (l : List Bytes) (root : Nat) (t : Bytes) (B : Option Addr) (d : Nat) (p : List Nat) (w : World) (hm : l.length ≤ maxLen) (hl : ∀ s ∈ l, s.length ≤ maxLen) (hA : Row w A (scells l)) (hp : ∀ z ∈ p, z < 18446744073709551616) (hpm : p.length ≤ maxLen) (hd : p.length ≤ d) (hdm : d ≤ maxLen) (hB : Row w B (mcells p))
    (i : Nat) (r : Int) (hf : rfault l = r) (h0 : r ≠ 0) (n : Nat) (k1 : 1 ≤ n) (k2 : n ≤ 40) (k3 : i < n) (k0 : t.length ≤ 40) :
    Calls Try.prog 3 #[.slice A l.length c, .int .i64 (i : Int), .int .u64 (root : Int), .int .i64 (n : Int), .string (S t), .slice B p.length d] w fun e w' => e = .returned (.bool true) ∧ Below w.heap.size w w' := by
  have hRt := fun w hA => Lib.hid (rollRoot_no A c l w hm hl hA r hf h0)
  have hIn := fun w hA => Lib.hid (rollIn_no A c l (i : Int) w hm hl hA r (by unfold inErr; rw [hf, if_pos h0]) h0)
  have hF := fun w hA => Lib.hid (refRollFault A c l w hm hl hA r hf)
  have g1 : (r == 0) = false := beq_eq_false_iff_ne.2 h0
  have g2 : (r != 0) = true := bne_iff_ne.2 h0
  clear hf
  obtain ⟨u, hu⟩ : ∃ u, isAns root n i t p = u := ⟨_, rfl⟩
  have hI := fun w hB => Lib.hid (rollIsIn_yes root n i t p B d p.length w k1 k2 k3 k0 hp rfl hd hdm hB u hu)
  obtain ⟨v, hv⟩ : ∃ v, (p.length == (sides n i).length) = v := ⟨_, rfl⟩
  obtain ⟨y, hy⟩ : ∃ y, (if v = true then mk (Hash.of (4 :: t)) (sides n i) p else 0) = y := ⟨_, rfl⟩
  have hV := fun w hB => Lib.hid (refRollMade n i t p B d w k1 k2 k3 k0 hpm hp hB v hv y hy)
  have HU : Hid (u = (v && (y : Int) == (root : Int))) := by
    show u = _
    rw [← hu, isAns, hv]
    cases v
    · rfl
    · rw [if_pos rfl] at hy
      rw [hy, Bool.true_and, Bool.true_and, Bool.eq_iff_iff, beq_iff_eq, beq_iff_eq]
      omega
  have k4 : decide ((n : Int) < 1) = false := decide_eq_false (by omega)
  have k5 : decide ((40 : Int) < (n : Int)) = false := decide_eq_false (by omega)
  have k6 : decide ((i : Int) < 0) = false := decide_eq_false (by omega)
  have k7 : decide (n ≤ i) = false := decide_eq_false (by omega)
  have k8 : ¬ n ≤ i := by omega
  have k9 : decide ((40 : Int) < (t.length : Int)) = false := decide_eq_false (by omega)
  clear hu hv hy k1 k2 k3
  unfold maxLen at hm hpm
  clear hl hp hd hdm
  go_enter Try.func3, Try.ntmps3
  go_wp2_with fail
  refine (hRt _ hA).out.mono ?_
  rintro e w1 ⟨rfl, hw⟩
  subst hw
  clear hRt
  have hb1 := Below.refl w.heap.size w
  have hA1 := hA
  have hB1 := hB
  clear hA hB
  go_wp2_with fail
  refine (hIn _ hA1).out.mono ?_
  rintro e w2 ⟨rfl, hw⟩
  subst hw
  have hA2 := hA1
  have hb02 := hb1
  have hB2 := hB1
  clear hIn hb1 hA1 hB1
  go_wp2_with fail
  refine (hI _ hB2).out.mono ?_
  rintro e w3 ⟨rfl, hb3⟩
  have hA3 := hA2.below hb3
  have hB3 := hB2.below hb3
  have hb03 := below_chain hb02 hb3
  clear hI hA2 hB2 hb02 hb3
  go_wp2_with fail
  refine (hF _ hA3).out.mono ?_
  rintro e w4 ⟨rfl, hw⟩
  subst hw
  clear hF
  go_wp2_with fail
  refine (hV _ hB3).out.mono ?_
  rintro e w8 ⟨rfl, hb8⟩
  have HUU := HU.out
  clear hV
  cases v with
  | false =>
    rw [Bool.false_and] at HUU
    subst HUU
    clear HU
    go_wp2
    go_ret
    exact ⟨by simp, below_chain hb03 hb8⟩
  | true =>
    rw [Bool.true_and] at HUU
    have HQ := Lib.hid HUU
    clear HU HUU
    go_wp2
    go_ret
    exact ⟨by simp; exact HQ.out, below_chain hb03 hb8⟩

set_option maxHeartbeats 4000000 in
theorem tells_la (A : Option Addr) (c : Nat) (l : List Bytes) (root : Nat) (t : Bytes) (B : Option Addr) (d : Nat) (p : List Nat) (w : World) (hm : l.length ≤ maxLen) (hl : ∀ s ∈ l, s.length ≤ maxLen) (hA : Row w A (scells l)) (ht : t.length ≤ maxLen)
    (i : Int) (hg : RGood l) (hc : l.length ≤ c) (h0 : i < 0) (n : Int) (k0 : n < 1) :
    Calls Try.prog 3 #[.slice A l.length c, .int .i64 i, .int .u64 (root : Int), .int .i64 n, .string (S t), .slice B p.length d] w fun e w' => e = .returned (.bool true) ∧ Below w.heap.size w w' := by
  have hRt := fun w hA => Lib.hid (rollRoot_yes A c l w hg hc hA _ rfl)
  have hF := fun w hA => Lib.hid (refRollFault A c l w hm hl hA 0 ((rfault_ok l).2 hg))
  have hMk := fun w hA => Lib.hid (refHash l A c 0 l.length w hg.pos (Nat.le_refl _) hg.le hg.each hA (rhash l) (by rw [seg_all]))
  have hrl : rhash l < 2305843009213693951 := rhash_lt l
  have hIn := fun w hA => Lib.hid (rollIn_no A c l i w hm hl hA 4 (by unfold inErr; rw [(rfault_ok l).2 hg, if_neg (by simp), if_pos (.inl h0)]) (by decide))
  generalize rhash l = x at *
  have hI := fun w => Lib.hid (rollIsIn_no root n i t B p.length d w ht 4 (by unfold isErr; rw [if_pos (.inl k0)]) (by decide))
  unfold maxLen at hm ht
  clear hl hg hc
  go_enter Try.func3, Try.ntmps3
  go_wp2_with fail
  refine (hRt _ hA).out.mono ?_
  rintro e w1 ⟨rfl, hb1⟩
  have hA1 := hA.below hb1
  clear hRt
  clear hA
  go_wp2_with fail
  refine (hIn _ hA1).out.mono ?_
  rintro e w2 ⟨rfl, hw⟩
  subst hw
  have hA2 := hA1
  have hb02 := hb1
  clear hIn hb1 hA1
  go_wp2_with fail
  refine (hI _).out.mono ?_
  rintro e w3 ⟨rfl, hw⟩
  subst hw
  have hA3 := hA2
  have hb03 := hb02
  clear hI hA2 hb02
  go_wp2_with fail
  refine (hF _ hA3).out.mono ?_
  rintro e w4 ⟨rfl, hw⟩
  subst hw
  clear hF
  go_wp2_with fail
  refine (hMk _ hA3).out.mono ?_
  rintro e w5 ⟨rfl, hb5⟩
  have hb05 := below_chain hb03 hb5
  clear hMk hA3 hb03 hb5
  go_wp2
  go_ret
  exact ⟨rfl, hb05⟩

set_option maxHeartbeats 4000000 in
theorem tells_lb (A : Option Addr) (c : Nat) (l : List Bytes) (root : Nat) (t : Bytes) (B : Option Addr) (d : Nat) (p : List Nat) (w : World) (hm : l.length ≤ maxLen) (hl : ∀ s ∈ l, s.length ≤ maxLen) (hA : Row w A (scells l)) (ht : t.length ≤ maxLen)
    (i : Int) (hg : RGood l) (hc : l.length ≤ c) (h0 : i < 0) (n : Int) (k0 : 40 < n) :
    Calls Try.prog 3 #[.slice A l.length c, .int .i64 i, .int .u64 (root : Int), .int .i64 n, .string (S t), .slice B p.length d] w fun e w' => e = .returned (.bool true) ∧ Below w.heap.size w w' := by
  have hRt := fun w hA => Lib.hid (rollRoot_yes A c l w hg hc hA _ rfl)
  have hF := fun w hA => Lib.hid (refRollFault A c l w hm hl hA 0 ((rfault_ok l).2 hg))
  have hMk := fun w hA => Lib.hid (refHash l A c 0 l.length w hg.pos (Nat.le_refl _) hg.le hg.each hA (rhash l) (by rw [seg_all]))
  have hrl : rhash l < 2305843009213693951 := rhash_lt l
  have hIn := fun w hA => Lib.hid (rollIn_no A c l i w hm hl hA 4 (by unfold inErr; rw [(rfault_ok l).2 hg, if_neg (by simp), if_pos (.inl h0)]) (by decide))
  generalize rhash l = x at *
  have hI := fun w => Lib.hid (rollIsIn_no root n i t B p.length d w ht 4 (by unfold isErr; rw [if_pos (.inr (.inl k0))]) (by decide))
  have k1 : decide (n < 1) = false := decide_eq_false (by omega)
  unfold maxLen at hm ht
  clear hl hg hc
  go_enter Try.func3, Try.ntmps3
  go_wp2_with fail
  refine (hRt _ hA).out.mono ?_
  rintro e w1 ⟨rfl, hb1⟩
  have hA1 := hA.below hb1
  clear hRt
  clear hA
  go_wp2_with fail
  refine (hIn _ hA1).out.mono ?_
  rintro e w2 ⟨rfl, hw⟩
  subst hw
  have hA2 := hA1
  have hb02 := hb1
  clear hIn hb1 hA1
  go_wp2_with fail
  refine (hI _).out.mono ?_
  rintro e w3 ⟨rfl, hw⟩
  subst hw
  have hA3 := hA2
  have hb03 := hb02
  clear hI hA2 hb02
  go_wp2_with fail
  refine (hF _ hA3).out.mono ?_
  rintro e w4 ⟨rfl, hw⟩
  subst hw
  clear hF
  go_wp2_with fail
  refine (hMk _ hA3).out.mono ?_
  rintro e w5 ⟨rfl, hb5⟩
  have hb05 := below_chain hb03 hb5
  clear hMk hA3 hb03 hb5
  go_wp2
  go_ret
  exact ⟨rfl, hb05⟩

set_option maxHeartbeats 4000000 in
theorem tells_lc (A : Option Addr) (c : Nat) (l : List Bytes) (root : Nat) (t : Bytes) (B : Option Addr) (d : Nat) (p : List Nat) (w : World) (hm : l.length ≤ maxLen) (hl : ∀ s ∈ l, s.length ≤ maxLen) (hA : Row w A (scells l)) (ht : t.length ≤ maxLen)
    (i : Int) (hg : RGood l) (hc : l.length ≤ c) (h0 : i < 0) (n : Int) (k2 : ¬ n < 1) (k3 : ¬ 40 < n) :
    Calls Try.prog 3 #[.slice A l.length c, .int .i64 i, .int .u64 (root : Int), .int .i64 n, .string (S t), .slice B p.length d] w fun e w' => e = .returned (.bool true) ∧ Below w.heap.size w w' := by
  have hRt := fun w hA => Lib.hid (rollRoot_yes A c l w hg hc hA _ rfl)
  have hF := fun w hA => Lib.hid (refRollFault A c l w hm hl hA 0 ((rfault_ok l).2 hg))
  have hMk := fun w hA => Lib.hid (refHash l A c 0 l.length w hg.pos (Nat.le_refl _) hg.le hg.each hA (rhash l) (by rw [seg_all]))
  have hrl : rhash l < 2305843009213693951 := rhash_lt l
  have hIn := fun w hA => Lib.hid (rollIn_no A c l i w hm hl hA 4 (by unfold inErr; rw [(rfault_ok l).2 hg, if_neg (by simp), if_pos (.inl h0)]) (by decide))
  generalize rhash l = x at *
  have hI := fun w => Lib.hid (rollIsIn_no root n i t B p.length d w ht 4 (by unfold isErr; rw [if_pos (.inr (.inr (.inl h0)))]) (by decide))
  have k7 : decide (n < 1) = false := decide_eq_false k2
  have k8 : decide (40 < n) = false := decide_eq_false k3
  unfold maxLen at hm ht
  clear hl hg hc
  go_enter Try.func3, Try.ntmps3
  go_wp2_with fail
  refine (hRt _ hA).out.mono ?_
  rintro e w1 ⟨rfl, hb1⟩
  have hA1 := hA.below hb1
  clear hRt
  clear hA
  go_wp2_with fail
  refine (hIn _ hA1).out.mono ?_
  rintro e w2 ⟨rfl, hw⟩
  subst hw
  have hA2 := hA1
  have hb02 := hb1
  clear hIn hb1 hA1
  go_wp2_with fail
  refine (hI _).out.mono ?_
  rintro e w3 ⟨rfl, hw⟩
  subst hw
  have hA3 := hA2
  have hb03 := hb02
  clear hI hA2 hb02
  go_wp2_with fail
  refine (hF _ hA3).out.mono ?_
  rintro e w4 ⟨rfl, hw⟩
  subst hw
  clear hF
  go_wp2_with fail
  refine (hMk _ hA3).out.mono ?_
  rintro e w5 ⟨rfl, hb5⟩
  have hb05 := below_chain hb03 hb5
  clear hMk hA3 hb03 hb5
  go_wp2
  go_ret
  exact ⟨rfl, hb05⟩

set_option maxHeartbeats 4000000 in
theorem tells_ha (A : Option Addr) (c : Nat) (l : List Bytes) (root : Nat) (t : Bytes) (B : Option Addr) (d : Nat) (p : List Nat) (w : World) (hm : l.length ≤ maxLen) (hl : ∀ s ∈ l, s.length ≤ maxLen) (hA : Row w A (scells l)) (ht : t.length ≤ maxLen)
    (i : Int) (hg : RGood l) (hc : l.length ≤ c) (h0 : ¬ i < 0) (h1 : (l.length : Int) ≤ i) (n : Int) (k0 : n < 1) :
    Calls Try.prog 3 #[.slice A l.length c, .int .i64 i, .int .u64 (root : Int), .int .i64 n, .string (S t), .slice B p.length d] w fun e w' => e = .returned (.bool true) ∧ Below w.heap.size w w' := by
  have hRt := fun w hA => Lib.hid (rollRoot_yes A c l w hg hc hA _ rfl)
  have hF := fun w hA => Lib.hid (refRollFault A c l w hm hl hA 0 ((rfault_ok l).2 hg))
  have hMk := fun w hA => Lib.hid (refHash l A c 0 l.length w hg.pos (Nat.le_refl _) hg.le hg.each hA (rhash l) (by rw [seg_all]))
  have hrl : rhash l < 2305843009213693951 := rhash_lt l
  have hIn := fun w hA => Lib.hid (rollIn_no A c l i w hm hl hA 4 (by unfold inErr; rw [(rfault_ok l).2 hg, if_neg (by simp), if_pos (.inr (by omega))]) (by decide))
  have g1 : decide (i < 0) = false := decide_eq_false h0
  have g2 : decide ((l.length : Int) ≤ i) = true := decide_eq_true h1
  generalize rhash l = x at *
  have hI := fun w => Lib.hid (rollIsIn_no root n i t B p.length d w ht 4 (by unfold isErr; rw [if_pos (.inl k0)]) (by decide))
  unfold maxLen at hm ht
  clear hl hg hc
  go_enter Try.func3, Try.ntmps3
  go_wp2_with fail
  refine (hRt _ hA).out.mono ?_
  rintro e w1 ⟨rfl, hb1⟩
  have hA1 := hA.below hb1
  clear hRt
  clear hA
  go_wp2_with fail
  refine (hIn _ hA1).out.mono ?_
  rintro e w2 ⟨rfl, hw⟩
  subst hw
  have hA2 := hA1
  have hb02 := hb1
  clear hIn hb1 hA1
  go_wp2_with fail
  refine (hI _).out.mono ?_
  rintro e w3 ⟨rfl, hw⟩
  subst hw
  have hA3 := hA2
  have hb03 := hb02
  clear hI hA2 hb02
  go_wp2_with fail
  refine (hF _ hA3).out.mono ?_
  rintro e w4 ⟨rfl, hw⟩
  subst hw
  clear hF
  go_wp2_with fail
  refine (hMk _ hA3).out.mono ?_
  rintro e w5 ⟨rfl, hb5⟩
  have hb05 := below_chain hb03 hb5
  clear hMk hA3 hb03 hb5
  go_wp2
  go_ret
  exact ⟨rfl, hb05⟩

set_option maxHeartbeats 4000000 in
theorem tells_hb (A : Option Addr) (c : Nat) (l : List Bytes) (root : Nat) (t : Bytes) (B : Option Addr) (d : Nat) (p : List Nat) (w : World) (hm : l.length ≤ maxLen) (hl : ∀ s ∈ l, s.length ≤ maxLen) (hA : Row w A (scells l)) (ht : t.length ≤ maxLen)
    (i : Int) (hg : RGood l) (hc : l.length ≤ c) (h0 : ¬ i < 0) (h1 : (l.length : Int) ≤ i) (n : Int) (k0 : 40 < n) :
    Calls Try.prog 3 #[.slice A l.length c, .int .i64 i, .int .u64 (root : Int), .int .i64 n, .string (S t), .slice B p.length d] w fun e w' => e = .returned (.bool true) ∧ Below w.heap.size w w' := by
  have hRt := fun w hA => Lib.hid (rollRoot_yes A c l w hg hc hA _ rfl)
  have hF := fun w hA => Lib.hid (refRollFault A c l w hm hl hA 0 ((rfault_ok l).2 hg))
  have hMk := fun w hA => Lib.hid (refHash l A c 0 l.length w hg.pos (Nat.le_refl _) hg.le hg.each hA (rhash l) (by rw [seg_all]))
  have hrl : rhash l < 2305843009213693951 := rhash_lt l
  have hIn := fun w hA => Lib.hid (rollIn_no A c l i w hm hl hA 4 (by unfold inErr; rw [(rfault_ok l).2 hg, if_neg (by simp), if_pos (.inr (by omega))]) (by decide))
  have g1 : decide (i < 0) = false := decide_eq_false h0
  have g2 : decide ((l.length : Int) ≤ i) = true := decide_eq_true h1
  generalize rhash l = x at *
  have hI := fun w => Lib.hid (rollIsIn_no root n i t B p.length d w ht 4 (by unfold isErr; rw [if_pos (.inr (.inl k0))]) (by decide))
  have k1 : decide (n < 1) = false := decide_eq_false (by omega)
  unfold maxLen at hm ht
  clear hl hg hc
  go_enter Try.func3, Try.ntmps3
  go_wp2_with fail
  refine (hRt _ hA).out.mono ?_
  rintro e w1 ⟨rfl, hb1⟩
  have hA1 := hA.below hb1
  clear hRt
  clear hA
  go_wp2_with fail
  refine (hIn _ hA1).out.mono ?_
  rintro e w2 ⟨rfl, hw⟩
  subst hw
  have hA2 := hA1
  have hb02 := hb1
  clear hIn hb1 hA1
  go_wp2_with fail
  refine (hI _).out.mono ?_
  rintro e w3 ⟨rfl, hw⟩
  subst hw
  have hA3 := hA2
  have hb03 := hb02
  clear hI hA2 hb02
  go_wp2_with fail
  refine (hF _ hA3).out.mono ?_
  rintro e w4 ⟨rfl, hw⟩
  subst hw
  clear hF
  go_wp2_with fail
  refine (hMk _ hA3).out.mono ?_
  rintro e w5 ⟨rfl, hb5⟩
  have hb05 := below_chain hb03 hb5
  clear hMk hA3 hb03 hb5
  go_wp2
  go_ret
  exact ⟨rfl, hb05⟩

set_option maxHeartbeats 4000000 in
theorem tells_hd (A : Option Addr) (c : Nat) (l : List Bytes) (root : Nat) (t : Bytes) (B : Option Addr) (d : Nat) (p : List Nat) (w : World) (hm : l.length ≤ maxLen) (hl : ∀ s ∈ l, s.length ≤ maxLen) (hA : Row w A (scells l)) (ht : t.length ≤ maxLen)
    (i : Int) (hg : RGood l) (hc : l.length ≤ c) (h0 : ¬ i < 0) (h1 : (l.length : Int) ≤ i) (n : Int) (k2 : ¬ n < 1) (k3 : ¬ 40 < n) (k0 : n ≤ i) :
    Calls Try.prog 3 #[.slice A l.length c, .int .i64 i, .int .u64 (root : Int), .int .i64 n, .string (S t), .slice B p.length d] w fun e w' => e = .returned (.bool true) ∧ Below w.heap.size w w' := by
  have hRt := fun w hA => Lib.hid (rollRoot_yes A c l w hg hc hA _ rfl)
  have hF := fun w hA => Lib.hid (refRollFault A c l w hm hl hA 0 ((rfault_ok l).2 hg))
  have hMk := fun w hA => Lib.hid (refHash l A c 0 l.length w hg.pos (Nat.le_refl _) hg.le hg.each hA (rhash l) (by rw [seg_all]))
  have hrl : rhash l < 2305843009213693951 := rhash_lt l
  have hIn := fun w hA => Lib.hid (rollIn_no A c l i w hm hl hA 4 (by unfold inErr; rw [(rfault_ok l).2 hg, if_neg (by simp), if_pos (.inr (by omega))]) (by decide))
  have g1 : decide (i < 0) = false := decide_eq_false h0
  have g2 : decide ((l.length : Int) ≤ i) = true := decide_eq_true h1
  generalize rhash l = x at *
  have hI := fun w => Lib.hid (rollIsIn_no root n i t B p.length d w ht 4 (by unfold isErr; rw [if_pos (.inr (.inr (.inr k0)))]) (by decide))
  have k7 : decide (n < 1) = false := decide_eq_false k2
  have k8 : decide (40 < n) = false := decide_eq_false k3
  have k10 : decide (n ≤ i) = true := decide_eq_true k0
  unfold maxLen at hm ht
  clear hl hg hc
  go_enter Try.func3, Try.ntmps3
  go_wp2_with fail
  refine (hRt _ hA).out.mono ?_
  rintro e w1 ⟨rfl, hb1⟩
  have hA1 := hA.below hb1
  clear hRt
  clear hA
  go_wp2_with fail
  refine (hIn _ hA1).out.mono ?_
  rintro e w2 ⟨rfl, hw⟩
  subst hw
  have hA2 := hA1
  have hb02 := hb1
  clear hIn hb1 hA1
  go_wp2_with fail
  refine (hI _).out.mono ?_
  rintro e w3 ⟨rfl, hw⟩
  subst hw
  have hA3 := hA2
  have hb03 := hb02
  clear hI hA2 hb02
  go_wp2_with fail
  refine (hF _ hA3).out.mono ?_
  rintro e w4 ⟨rfl, hw⟩
  subst hw
  clear hF
  go_wp2_with fail
  refine (hMk _ hA3).out.mono ?_
  rintro e w5 ⟨rfl, hb5⟩
  have hb05 := below_chain hb03 hb5
  clear hMk hA3 hb03 hb5
  go_wp2
  go_ret
  exact ⟨rfl, hb05⟩

set_option maxHeartbeats 4000000 in
theorem tells_ht (A : Option Addr) (c : Nat) (l : List Bytes) (root : Nat) (t : Bytes) (B : Option Addr) (d : Nat) (p : List Nat) (w : World) (hm : l.length ≤ maxLen) (hl : ∀ s ∈ l, s.length ≤ maxLen) (hA : Row w A (scells l)) (ht : t.length ≤ maxLen)
    (i : Int) (hg : RGood l) (hc : l.length ≤ c) (h0 : ¬ i < 0) (h1 : (l.length : Int) ≤ i) (n : Int) (k2 : ¬ n < 1) (k3 : ¬ 40 < n) (k5 : ¬ n ≤ i) (k0 : 40 < t.length) :
    Calls Try.prog 3 #[.slice A l.length c, .int .i64 i, .int .u64 (root : Int), .int .i64 n, .string (S t), .slice B p.length d] w fun e w' => e = .returned (.bool true) ∧ Below w.heap.size w w' := by
  have hRt := fun w hA => Lib.hid (rollRoot_yes A c l w hg hc hA _ rfl)
  have hF := fun w hA => Lib.hid (refRollFault A c l w hm hl hA 0 ((rfault_ok l).2 hg))
  have hMk := fun w hA => Lib.hid (refHash l A c 0 l.length w hg.pos (Nat.le_refl _) hg.le hg.each hA (rhash l) (by rw [seg_all]))
  have hrl : rhash l < 2305843009213693951 := rhash_lt l
  have hIn := fun w hA => Lib.hid (rollIn_no A c l i w hm hl hA 4 (by unfold inErr; rw [(rfault_ok l).2 hg, if_neg (by simp), if_pos (.inr (by omega))]) (by decide))
  have g1 : decide (i < 0) = false := decide_eq_false h0
  have g2 : decide ((l.length : Int) ≤ i) = true := decide_eq_true h1
  generalize rhash l = x at *
  have hI := fun w => Lib.hid (rollIsIn_no root n i t B p.length d w ht 2 (by unfold isErr; rw [if_neg (by omega), if_pos k0]) (by decide))
  have k7 : decide (n < 1) = false := decide_eq_false k2
  have k8 : decide (40 < n) = false := decide_eq_false k3
  have k10 : decide (n ≤ i) = false := decide_eq_false k5
  have k11 : decide ((40 : Int) < (t.length : Int)) = true := decide_eq_true (by omega)
  unfold maxLen at hm ht
  clear hl hg hc
  go_enter Try.func3, Try.ntmps3
  go_wp2_with fail
  refine (hRt _ hA).out.mono ?_
  rintro e w1 ⟨rfl, hb1⟩
  have hA1 := hA.below hb1
  clear hRt
  clear hA
  go_wp2_with fail
  refine (hIn _ hA1).out.mono ?_
  rintro e w2 ⟨rfl, hw⟩
  subst hw
  have hA2 := hA1
  have hb02 := hb1
  clear hIn hb1 hA1
  go_wp2_with fail
  refine (hI _).out.mono ?_
  rintro e w3 ⟨rfl, hw⟩
  subst hw
  have hA3 := hA2
  have hb03 := hb02
  clear hI hA2 hb02
  go_wp2_with fail
  refine (hF _ hA3).out.mono ?_
  rintro e w4 ⟨rfl, hw⟩
  subst hw
  clear hF
  go_wp2_with fail
  refine (hMk _ hA3).out.mono ?_
  rintro e w5 ⟨rfl, hb5⟩
  have hb05 := below_chain hb03 hb5
  clear hMk hA3 hb03 hb5
  go_wp2
  go_ret
  exact ⟨rfl, hb05⟩

set_option maxHeartbeats 4000000 in
theorem tells_he (A : Option Addr) (c : Nat) (l : List Bytes) (root : Nat) (t : Bytes) (B : Option Addr) (d : Nat) (p : List Nat) (w : World) (hm : l.length ≤ maxLen) (hl : ∀ s ∈ l, s.length ≤ maxLen) (hA : Row w A (scells l)) (hp : ∀ z ∈ p, z < 18446744073709551616) (hpm : p.length ≤ maxLen) (hd : p.length ≤ d) (hdm : d ≤ maxLen) (hB : Row w B (mcells p))
    (i : Nat) (hg : RGood l) (hc : l.length ≤ c) (h1 : l.length ≤ i) (n : Nat) (k1 : 1 ≤ n) (k2 : n ≤ 40) (k3 : i < n) (k0 : t.length ≤ 40) :
    Calls Try.prog 3 #[.slice A l.length c, .int .i64 (i : Int), .int .u64 (root : Int), .int .i64 (n : Int), .string (S t), .slice B p.length d] w fun e w' => e = .returned (.bool true) ∧ Below w.heap.size w w' := by
  have hRt := fun w hA => Lib.hid (rollRoot_yes A c l w hg hc hA _ rfl)
  have hF := fun w hA => Lib.hid (refRollFault A c l w hm hl hA 0 ((rfault_ok l).2 hg))
  have hMk := fun w hA => Lib.hid (refHash l A c 0 l.length w hg.pos (Nat.le_refl _) hg.le hg.each hA (rhash l) (by rw [seg_all]))
  have hrl : rhash l < 2305843009213693951 := rhash_lt l
  have hIn := fun w hA => Lib.hid (rollIn_no A c l (i : Int) w hm hl hA 4 (by unfold inErr; rw [(rfault_ok l).2 hg, if_neg (by simp), if_pos (.inr (by omega))]) (by decide))
  have g1 : decide ((i : Int) < 0) = false := decide_eq_false (by omega)
  have g2 : decide (l.length ≤ i) = true := decide_eq_true h1
  have g3 : l.length ≤ i := h1
  generalize rhash l = x at *
  obtain ⟨u, hu⟩ : ∃ u, isAns root n i t p = u := ⟨_, rfl⟩
  have hI := fun w hB => Lib.hid (rollIsIn_yes root n i t p B d p.length w k1 k2 k3 k0 hp rfl hd hdm hB u hu)
  obtain ⟨v, hv⟩ : ∃ v, (p.length == (sides n i).length) = v := ⟨_, rfl⟩
  obtain ⟨y, hy⟩ : ∃ y, (if v = true then mk (Hash.of (4 :: t)) (sides n i) p else 0) = y := ⟨_, rfl⟩
  have hV := fun w hB => Lib.hid (refRollMade n i t p B d w k1 k2 k3 k0 hpm hp hB v hv y hy)
  have HU : Hid (u = (v && (y : Int) == (root : Int))) := by
    show u = _
    rw [← hu, isAns, hv]
    cases v
    · rfl
    · rw [if_pos rfl] at hy
      rw [hy, Bool.true_and, Bool.true_and, Bool.eq_iff_iff, beq_iff_eq, beq_iff_eq]
      omega
  have k4 : decide ((n : Int) < 1) = false := decide_eq_false (by omega)
  have k5 : decide ((40 : Int) < (n : Int)) = false := decide_eq_false (by omega)
  have k6 : decide ((i : Int) < 0) = false := decide_eq_false (by omega)
  have k7 : decide (n ≤ i) = false := decide_eq_false (by omega)
  have k8 : ¬ n ≤ i := by omega
  have k9 : decide ((40 : Int) < (t.length : Int)) = false := decide_eq_false (by omega)
  clear hu hv hy k1 k2 k3
  unfold maxLen at hm hpm
  clear hl hp hd hdm hg hc
  go_enter Try.func3, Try.ntmps3
  go_wp2_with fail
  refine (hRt _ hA).out.mono ?_
  rintro e w1 ⟨rfl, hb1⟩
  have hA1 := hA.below hb1
  have hB1 := hB.below hb1
  clear hRt
  clear hA hB
  go_wp2_with fail
  refine (hIn _ hA1).out.mono ?_
  rintro e w2 ⟨rfl, hw⟩
  subst hw
  have hA2 := hA1
  have hb02 := hb1
  have hB2 := hB1
  clear hIn hb1 hA1 hB1
  go_wp2_with fail
  refine (hI _ hB2).out.mono ?_
  rintro e w3 ⟨rfl, hb3⟩
  have hA3 := hA2.below hb3
  have hB3 := hB2.below hb3
  have hb03 := below_chain hb02 hb3
  clear hI hA2 hB2 hb02 hb3
  go_wp2_with fail
  refine (hF _ hA3).out.mono ?_
  rintro e w4 ⟨rfl, hw⟩
  subst hw
  clear hF
  go_wp2_with fail
  refine (hMk _ hA3).out.mono ?_
  rintro e w5 ⟨rfl, hb5⟩
  have hb05 := below_chain hb03 hb5
  have hB5 := hB3.below hb5
  clear hMk hA3 hb03 hb5 hB3
  go_wp2_with fail
  refine (hV _ hB5).out.mono ?_
  rintro e w8 ⟨rfl, hb8⟩
  have HUU := HU.out
  clear hV
  cases v with
  | false =>
    rw [Bool.false_and] at HUU
    subst HUU
    clear HU
    go_wp2
    go_ret
    exact ⟨by simp, below_chain hb05 hb8⟩
  | true =>
    rw [Bool.true_and] at HUU
    have HQ := Lib.hid HUU
    clear HU HUU
    go_wp2
    go_ret
    exact ⟨by simp; exact HQ.out, below_chain hb05 hb8⟩

set_option maxHeartbeats 4000000 in
theorem tells_oa (A : Option Addr) (c : Nat) (l : List Bytes) (root : Nat) (t : Bytes) (B : Option Addr) (d : Nat) (p : List Nat) (w : World) (hm : l.length ≤ maxLen) (hl : ∀ s ∈ l, s.length ≤ maxLen) (hA : Row w A (scells l)) (ht : t.length ≤ maxLen)
    (i : Nat) (hg : RGood l) (hc : l.length ≤ c) (h1 : i < l.length) (n : Int) (k0 : n < 1) :
    Calls Try.prog 3 #[.slice A l.length c, .int .i64 (i : Int), .int .u64 (root : Int), .int .i64 n, .string (S t), .slice B p.length d] w fun e w' => e = .returned (.bool true) ∧ Below w.heap.size w w' := by
  have hRt := fun w hA => Lib.hid (rollRoot_yes A c l w hg hc hA _ rfl)
  have hF := fun w hA => Lib.hid (refRollFault A c l w hm hl hA 0 ((rfault_ok l).2 hg))
  have hMk := fun w hA => Lib.hid (refHash l A c 0 l.length w hg.pos (Nat.le_refl _) hg.le hg.each hA (rhash l) (by rw [seg_all]))
  have hrl : rhash l < 2305843009213693951 := rhash_lt l
  have hIn := fun w hA => Lib.hid (rollIn_yes A c l i w hg hc h1 hA)
  have hR := fun w hA => Lib.hid (refRollIn A c l i w hg h1 hA)
  have hLl : (inn l i).length ≤ maxLen := Nat.le_trans (inn_le _ _) (by have := hg.le; unfold maxLen; omega)
  have hE := fun D E d e w hD hE' => Lib.hid (eqMarks D E d e (inn l i) (inn l i) w hLl true (decide_eq_true rfl) hD hE')
  have g1 : decide ((i : Int) < 0) = false := decide_eq_false (by omega)
  have g2 : decide (l.length ≤ i) = false := decide_eq_false (by omega)
  have g3 : ¬ l.length ≤ i := by omega
  generalize inn l i = L at *
  generalize rhash l = x at *
  have hI := fun w => Lib.hid (rollIsIn_no root n (i : Int) t B p.length d w ht 4 (by unfold isErr; rw [if_pos (.inl k0)]) (by decide))
  unfold maxLen at hm ht
  clear hl hg hc
  go_enter Try.func3, Try.ntmps3
  go_wp2_with fail
  refine (hRt _ hA).out.mono ?_
  rintro e w1 ⟨rfl, hb1⟩
  have hA1 := hA.below hb1
  clear hRt
  clear hA
  go_wp2_with fail
  refine (hIn _ hA1).out.mono ?_
  rintro e w2 ⟨D, dd, rfl, hown, hb2⟩
  have hA2 := hA1.below hb2
  have hb02 := below_chain hb1 hb2
  have hD2 := Row.own hown
  clear hIn hown hb2 hb1 hA1
  go_wp2_with fail
  refine (hI _).out.mono ?_
  rintro e w3 ⟨rfl, hw⟩
  subst hw
  have hA3 := hA2
  have hb03 := hb02
  have hD3 := hD2
  clear hD2
  clear hI hA2 hb02
  go_wp2_with fail
  refine (hF _ hA3).out.mono ?_
  rintro e w4 ⟨rfl, hw⟩
  subst hw
  clear hF
  go_wp2_with fail
  refine (hMk _ hA3).out.mono ?_
  rintro e w5 ⟨rfl, hb5⟩
  have hb05 := below_chain hb03 hb5
  have hD5 := hD3.below hb5
  have hA5 := hA3.below hb5
  clear hD3
  clear hMk hA3 hb03 hb5
  go_wp2_with fail
  refine (hR _ hA5).out.mono ?_
  rintro e w6 ⟨E, ee, rfl, hown, hb6⟩
  have hE6 := Row.own hown
  have hD6 := hD5.below hb6
  have hb06 := below_chain hb05 hb6
  clear hR hown hD5 hA5 hb05 hb6
  go_wp2_with fail
  refine (hE D E dd ee _ hD6 hE6).out.mono ?_
  rintro e w7 ⟨rfl, mm, rfl⟩
  have hb07 := below_drewN hb06 mm
  clear hE hE6 hD6 hb06
  go_wp2
  go_ret
  exact ⟨rfl, hb07⟩

set_option maxHeartbeats 4000000 in
theorem tells_ob (A : Option Addr) (c : Nat) (l : List Bytes) (root : Nat) (t : Bytes) (B : Option Addr) (d : Nat) (p : List Nat) (w : World) (hm : l.length ≤ maxLen) (hl : ∀ s ∈ l, s.length ≤ maxLen) (hA : Row w A (scells l)) (ht : t.length ≤ maxLen)
    (i : Nat) (hg : RGood l) (hc : l.length ≤ c) (h1 : i < l.length) (n : Int) (k0 : 40 < n) :
    Calls Try.prog 3 #[.slice A l.length c, .int .i64 (i : Int), .int .u64 (root : Int), .int .i64 n, .string (S t), .slice B p.length d] w fun e w' => e = .returned (.bool true) ∧ Below w.heap.size w w' := by
  have hRt := fun w hA => Lib.hid (rollRoot_yes A c l w hg hc hA _ rfl)
  have hF := fun w hA => Lib.hid (refRollFault A c l w hm hl hA 0 ((rfault_ok l).2 hg))
  have hMk := fun w hA => Lib.hid (refHash l A c 0 l.length w hg.pos (Nat.le_refl _) hg.le hg.each hA (rhash l) (by rw [seg_all]))
  have hrl : rhash l < 2305843009213693951 := rhash_lt l
  have hIn := fun w hA => Lib.hid (rollIn_yes A c l i w hg hc h1 hA)
  have hR := fun w hA => Lib.hid (refRollIn A c l i w hg h1 hA)
  have hLl : (inn l i).length ≤ maxLen := Nat.le_trans (inn_le _ _) (by have := hg.le; unfold maxLen; omega)
  have hE := fun D E d e w hD hE' => Lib.hid (eqMarks D E d e (inn l i) (inn l i) w hLl true (decide_eq_true rfl) hD hE')
  have g1 : decide ((i : Int) < 0) = false := decide_eq_false (by omega)
  have g2 : decide (l.length ≤ i) = false := decide_eq_false (by omega)
  have g3 : ¬ l.length ≤ i := by omega
  generalize inn l i = L at *
  generalize rhash l = x at *
  have hI := fun w => Lib.hid (rollIsIn_no root n (i : Int) t B p.length d w ht 4 (by unfold isErr; rw [if_pos (.inr (.inl k0))]) (by decide))
  have k1 : decide (n < 1) = false := decide_eq_false (by omega)
  unfold maxLen at hm ht
  clear hl hg hc
  go_enter Try.func3, Try.ntmps3
  go_wp2_with fail
  refine (hRt _ hA).out.mono ?_
  rintro e w1 ⟨rfl, hb1⟩
  have hA1 := hA.below hb1
  clear hRt
  clear hA
  go_wp2_with fail
  refine (hIn _ hA1).out.mono ?_
  rintro e w2 ⟨D, dd, rfl, hown, hb2⟩
  have hA2 := hA1.below hb2
  have hb02 := below_chain hb1 hb2
  have hD2 := Row.own hown
  clear hIn hown hb2 hb1 hA1
  go_wp2_with fail
  refine (hI _).out.mono ?_
  rintro e w3 ⟨rfl, hw⟩
  subst hw
  have hA3 := hA2
  have hb03 := hb02
  have hD3 := hD2
  clear hD2
  clear hI hA2 hb02
  go_wp2_with fail
  refine (hF _ hA3).out.mono ?_
  rintro e w4 ⟨rfl, hw⟩
  subst hw
  clear hF
  go_wp2_with fail
  refine (hMk _ hA3).out.mono ?_
  rintro e w5 ⟨rfl, hb5⟩
  have hb05 := below_chain hb03 hb5
  have hD5 := hD3.below hb5
  have hA5 := hA3.below hb5
  clear hD3
  clear hMk hA3 hb03 hb5
  go_wp2_with fail
  refine (hR _ hA5).out.mono ?_
  rintro e w6 ⟨E, ee, rfl, hown, hb6⟩
  have hE6 := Row.own hown
  have hD6 := hD5.below hb6
  have hb06 := below_chain hb05 hb6
  clear hR hown hD5 hA5 hb05 hb6
  go_wp2_with fail
  refine (hE D E dd ee _ hD6 hE6).out.mono ?_
  rintro e w7 ⟨rfl, mm, rfl⟩
  have hb07 := below_drewN hb06 mm
  clear hE hE6 hD6 hb06
  go_wp2
  go_ret
  exact ⟨rfl, hb07⟩

set_option maxHeartbeats 4000000 in
theorem tells_od (A : Option Addr) (c : Nat) (l : List Bytes) (root : Nat) (t : Bytes) (B : Option Addr) (d : Nat) (p : List Nat) (w : World) (hm : l.length ≤ maxLen) (hl : ∀ s ∈ l, s.length ≤ maxLen) (hA : Row w A (scells l)) (ht : t.length ≤ maxLen)
    (i : Nat) (hg : RGood l) (hc : l.length ≤ c) (h1 : i < l.length) (n : Int) (k2 : ¬ n < 1) (k3 : ¬ 40 < n) (k0 : n ≤ (i : Int)) :
    Calls Try.prog 3 #[.slice A l.length c, .int .i64 (i : Int), .int .u64 (root : Int), .int .i64 n, .string (S t), .slice B p.length d] w fun e w' => e = .returned (.bool true) ∧ Below w.heap.size w w' := by
  have hRt := fun w hA => Lib.hid (rollRoot_yes A c l w hg hc hA _ rfl)
  have hF := fun w hA => Lib.hid (refRollFault A c l w hm hl hA 0 ((rfault_ok l).2 hg))
  have hMk := fun w hA => Lib.hid (refHash l A c 0 l.length w hg.pos (Nat.le_refl _) hg.le hg.each hA (rhash l) (by rw [seg_all]))
  have hrl : rhash l < 2305843009213693951 := rhash_lt l
  have hIn := fun w hA => Lib.hid (rollIn_yes A c l i w hg hc h1 hA)
  have hR := fun w hA => Lib.hid (refRollIn A c l i w hg h1 hA)
  have hLl : (inn l i).length ≤ maxLen := Nat.le_trans (inn_le _ _) (by have := hg.le; unfold maxLen; omega)
  have hE := fun D E d e w hD hE' => Lib.hid (eqMarks D E d e (inn l i) (inn l i) w hLl true (decide_eq_true rfl) hD hE')
  have g1 : decide ((i : Int) < 0) = false := decide_eq_false (by omega)
  have g2 : decide (l.length ≤ i) = false := decide_eq_false (by omega)
  have g3 : ¬ l.length ≤ i := by omega
  generalize inn l i = L at *
  generalize rhash l = x at *
  have hI := fun w => Lib.hid (rollIsIn_no root n (i : Int) t B p.length d w ht 4 (by unfold isErr; rw [if_pos (.inr (.inr (.inr k0)))]) (by decide))
  have k7 : decide (n < 1) = false := decide_eq_false k2
  have k8 : decide (40 < n) = false := decide_eq_false k3
  have k10 : decide (n ≤ (i : Int)) = true := decide_eq_true k0
  unfold maxLen at hm ht
  clear hl hg hc
  go_enter Try.func3, Try.ntmps3
  go_wp2_with fail
  refine (hRt _ hA).out.mono ?_
  rintro e w1 ⟨rfl, hb1⟩
  have hA1 := hA.below hb1
  clear hRt
  clear hA
  go_wp2_with fail
  refine (hIn _ hA1).out.mono ?_
  rintro e w2 ⟨D, dd, rfl, hown, hb2⟩
  have hA2 := hA1.below hb2
  have hb02 := below_chain hb1 hb2
  have hD2 := Row.own hown
  clear hIn hown hb2 hb1 hA1
  go_wp2_with fail
  refine (hI _).out.mono ?_
  rintro e w3 ⟨rfl, hw⟩
  subst hw
  have hA3 := hA2
  have hb03 := hb02
  have hD3 := hD2
  clear hD2
  clear hI hA2 hb02
  go_wp2_with fail
  refine (hF _ hA3).out.mono ?_
  rintro e w4 ⟨rfl, hw⟩
  subst hw
  clear hF
  go_wp2_with fail
  refine (hMk _ hA3).out.mono ?_
  rintro e w5 ⟨rfl, hb5⟩
  have hb05 := below_chain hb03 hb5
  have hD5 := hD3.below hb5
  have hA5 := hA3.below hb5
  clear hD3
  clear hMk hA3 hb03 hb5
  go_wp2_with fail
  refine (hR _ hA5).out.mono ?_
  rintro e w6 ⟨E, ee, rfl, hown, hb6⟩
  have hE6 := Row.own hown
  have hD6 := hD5.below hb6
  have hb06 := below_chain hb05 hb6
  clear hR hown hD5 hA5 hb05 hb6
  go_wp2_with fail
  refine (hE D E dd ee _ hD6 hE6).out.mono ?_
  rintro e w7 ⟨rfl, mm, rfl⟩
  have hb07 := below_drewN hb06 mm
  clear hE hE6 hD6 hb06
  go_wp2
  go_ret
  exact ⟨rfl, hb07⟩

set_option maxHeartbeats 4000000 in
theorem tells_ot (A : Option Addr) (c : Nat) (l : List Bytes) (root : Nat) (t : Bytes) (B : Option Addr) (d : Nat) (p : List Nat) (w : World) (hm : l.length ≤ maxLen) (hl : ∀ s ∈ l, s.length ≤ maxLen) (hA : Row w A (scells l)) (ht : t.length ≤ maxLen)
    (i : Nat) (hg : RGood l) (hc : l.length ≤ c) (h1 : i < l.length) (n : Int) (k2 : ¬ n < 1) (k3 : ¬ 40 < n) (k5 : ¬ n ≤ (i : Int)) (k0 : 40 < t.length) :
    Calls Try.prog 3 #[.slice A l.length c, .int .i64 (i : Int), .int .u64 (root : Int), .int .i64 n, .string (S t), .slice B p.length d] w fun e w' => e = .returned (.bool true) ∧ Below w.heap.size w w' := by
  have hRt := fun w hA => Lib.hid (rollRoot_yes A c l w hg hc hA _ rfl)
  have hF := fun w hA => Lib.hid (refRollFault A c l w hm hl hA 0 ((rfault_ok l).2 hg))
  have hMk := fun w hA => Lib.hid (refHash l A c 0 l.length w hg.pos (Nat.le_refl _) hg.le hg.each hA (rhash l) (by rw [seg_all]))
  have hrl : rhash l < 2305843009213693951 := rhash_lt l
  have hIn := fun w hA => Lib.hid (rollIn_yes A c l i w hg hc h1 hA)
  have hR := fun w hA => Lib.hid (refRollIn A c l i w hg h1 hA)
  have hLl : (inn l i).length ≤ maxLen := Nat.le_trans (inn_le _ _) (by have := hg.le; unfold maxLen; omega)
  have hE := fun D E d e w hD hE' => Lib.hid (eqMarks D E d e (inn l i) (inn l i) w hLl true (decide_eq_true rfl) hD hE')
  have g1 : decide ((i : Int) < 0) = false := decide_eq_false (by omega)
  have g2 : decide (l.length ≤ i) = false := decide_eq_false (by omega)
  have g3 : ¬ l.length ≤ i := by omega
  generalize inn l i = L at *
  generalize rhash l = x at *
  have hI := fun w => Lib.hid (rollIsIn_no root n (i : Int) t B p.length d w ht 2 (by unfold isErr; rw [if_neg (by omega), if_pos k0]) (by decide))
  have k7 : decide (n < 1) = false := decide_eq_false k2
  have k8 : decide (40 < n) = false := decide_eq_false k3
  have k10 : decide (n ≤ (i : Int)) = false := decide_eq_false k5
  have k11 : decide ((40 : Int) < (t.length : Int)) = true := decide_eq_true (by omega)
  unfold maxLen at hm ht
  clear hl hg hc
  go_enter Try.func3, Try.ntmps3
  go_wp2_with fail
  refine (hRt _ hA).out.mono ?_
  rintro e w1 ⟨rfl, hb1⟩
  have hA1 := hA.below hb1
  clear hRt
  clear hA
  go_wp2_with fail
  refine (hIn _ hA1).out.mono ?_
  rintro e w2 ⟨D, dd, rfl, hown, hb2⟩
  have hA2 := hA1.below hb2
  have hb02 := below_chain hb1 hb2
  have hD2 := Row.own hown
  clear hIn hown hb2 hb1 hA1
  go_wp2_with fail
  refine (hI _).out.mono ?_
  rintro e w3 ⟨rfl, hw⟩
  subst hw
  have hA3 := hA2
  have hb03 := hb02
  have hD3 := hD2
  clear hD2
  clear hI hA2 hb02
  go_wp2_with fail
  refine (hF _ hA3).out.mono ?_
  rintro e w4 ⟨rfl, hw⟩
  subst hw
  clear hF
  go_wp2_with fail
  refine (hMk _ hA3).out.mono ?_
  rintro e w5 ⟨rfl, hb5⟩
  have hb05 := below_chain hb03 hb5
  have hD5 := hD3.below hb5
  have hA5 := hA3.below hb5
  clear hD3
  clear hMk hA3 hb03 hb5
  go_wp2_with fail
  refine (hR _ hA5).out.mono ?_
  rintro e w6 ⟨E, ee, rfl, hown, hb6⟩
  have hE6 := Row.own hown
  have hD6 := hD5.below hb6
  have hb06 := below_chain hb05 hb6
  clear hR hown hD5 hA5 hb05 hb6
  go_wp2_with fail
  refine (hE D E dd ee _ hD6 hE6).out.mono ?_
  rintro e w7 ⟨rfl, mm, rfl⟩
  have hb07 := below_drewN hb06 mm
  clear hE hE6 hD6 hb06
  go_wp2
  go_ret
  exact ⟨rfl, hb07⟩

set_option maxHeartbeats 4000000 in
theorem tells_oe (A : Option Addr) (c : Nat) (l : List Bytes) (root : Nat) (t : Bytes) (B : Option Addr) (d : Nat) (p : List Nat) (w : World) (hm : l.length ≤ maxLen) (hl : ∀ s ∈ l, s.length ≤ maxLen) (hA : Row w A (scells l)) (hp : ∀ z ∈ p, z < 18446744073709551616) (hpm : p.length ≤ maxLen) (hd : p.length ≤ d) (hdm : d ≤ maxLen) (hB : Row w B (mcells p))
    (i : Nat) (hg : RGood l) (hc : l.length ≤ c) (h1 : i < l.length) (n : Nat) (k1 : 1 ≤ n) (k2 : n ≤ 40) (k3 : i < n) (k0 : t.length ≤ 40) :
    Calls Try.prog 3 #[.slice A l.length c, .int .i64 (i : Int), .int .u64 (root : Int), .int .i64 (n : Int), .string (S t), .slice B p.length d] w fun e w' => e = .returned (.bool true) ∧ Below w.heap.size w w' := by
  have hRt := fun w hA => Lib.hid (rollRoot_yes A c l w hg hc hA _ rfl)
  have hF := fun w hA => Lib.hid (refRollFault A c l w hm hl hA 0 ((rfault_ok l).2 hg))
  have hMk := fun w hA => Lib.hid (refHash l A c 0 l.length w hg.pos (Nat.le_refl _) hg.le hg.each hA (rhash l) (by rw [seg_all]))
  have hrl : rhash l < 2305843009213693951 := rhash_lt l
  have hIn := fun w hA => Lib.hid (rollIn_yes A c l i w hg hc h1 hA)
  have hR := fun w hA => Lib.hid (refRollIn A c l i w hg h1 hA)
  have hLl : (inn l i).length ≤ maxLen := Nat.le_trans (inn_le _ _) (by have := hg.le; unfold maxLen; omega)
  have hE := fun D E d e w hD hE' => Lib.hid (eqMarks D E d e (inn l i) (inn l i) w hLl true (decide_eq_true rfl) hD hE')
  have g1 : decide ((i : Int) < 0) = false := decide_eq_false (by omega)
  have g2 : decide (l.length ≤ i) = false := decide_eq_false (by omega)
  have g3 : ¬ l.length ≤ i := by omega
  generalize inn l i = L at *
  generalize rhash l = x at *
  obtain ⟨u, hu⟩ : ∃ u, isAns root n i t p = u := ⟨_, rfl⟩
  have hI := fun w hB => Lib.hid (rollIsIn_yes root n i t p B d p.length w k1 k2 k3 k0 hp rfl hd hdm hB u hu)
  obtain ⟨v, hv⟩ : ∃ v, (p.length == (sides n i).length) = v := ⟨_, rfl⟩
  obtain ⟨y, hy⟩ : ∃ y, (if v = true then mk (Hash.of (4 :: t)) (sides n i) p else 0) = y := ⟨_, rfl⟩
  have hV := fun w hB => Lib.hid (refRollMade n i t p B d w k1 k2 k3 k0 hpm hp hB v hv y hy)
  have HU : Hid (u = (v && (y : Int) == (root : Int))) := by
    show u = _
    rw [← hu, isAns, hv]
    cases v
    · rfl
    · rw [if_pos rfl] at hy
      rw [hy, Bool.true_and, Bool.true_and, Bool.eq_iff_iff, beq_iff_eq, beq_iff_eq]
      omega
  have k4 : decide ((n : Int) < 1) = false := decide_eq_false (by omega)
  have k5 : decide ((40 : Int) < (n : Int)) = false := decide_eq_false (by omega)
  have k6 : decide ((i : Int) < 0) = false := decide_eq_false (by omega)
  have k7 : decide (n ≤ i) = false := decide_eq_false (by omega)
  have k8 : ¬ n ≤ i := by omega
  have k9 : decide ((40 : Int) < (t.length : Int)) = false := decide_eq_false (by omega)
  clear hu hv hy k1 k2 k3
  unfold maxLen at hm hpm
  clear hl hp hd hdm hg hc
  go_enter Try.func3, Try.ntmps3
  go_wp2_with fail
  refine (hRt _ hA).out.mono ?_
  rintro e w1 ⟨rfl, hb1⟩
  have hA1 := hA.below hb1
  have hB1 := hB.below hb1
  clear hRt
  clear hA hB
  go_wp2_with fail
  refine (hIn _ hA1).out.mono ?_
  rintro e w2 ⟨D, dd, rfl, hown, hb2⟩
  have hA2 := hA1.below hb2
  have hb02 := below_chain hb1 hb2
  have hD2 := Row.own hown
  have hB2 := hB1.below hb2
  clear hIn hown hb2 hb1 hA1 hB1
  go_wp2_with fail
  refine (hI _ hB2).out.mono ?_
  rintro e w3 ⟨rfl, hb3⟩
  have hA3 := hA2.below hb3
  have hB3 := hB2.below hb3
  have hb03 := below_chain hb02 hb3
  have hD3 := hD2.below hb3
  clear hD2
  clear hI hA2 hB2 hb02 hb3
  go_wp2_with fail
  refine (hF _ hA3).out.mono ?_
  rintro e w4 ⟨rfl, hw⟩
  subst hw
  clear hF
  go_wp2_with fail
  refine (hMk _ hA3).out.mono ?_
  rintro e w5 ⟨rfl, hb5⟩
  have hb05 := below_chain hb03 hb5
  have hB5 := hB3.below hb5
  have hD5 := hD3.below hb5
  have hA5 := hA3.below hb5
  clear hD3
  clear hMk hA3 hb03 hb5 hB3
  go_wp2_with fail
  refine (hR _ hA5).out.mono ?_
  rintro e w6 ⟨E, ee, rfl, hown, hb6⟩
  have hE6 := Row.own hown
  have hD6 := hD5.below hb6
  have hb06 := below_chain hb05 hb6
  have hB6 := hB5.below hb6
  clear hR hown hD5 hA5 hb05 hb6 hB5
  go_wp2_with fail
  refine (hE D E dd ee _ hD6 hE6).out.mono ?_
  rintro e w7 ⟨rfl, mm, rfl⟩
  have hb07 := below_drewN hb06 mm
  have hB7 := hB6.drewN mm
  clear hE hE6 hD6 hb06 hB6
  go_wp2_with fail
  refine (hV _ hB7).out.mono ?_
  rintro e w8 ⟨rfl, hb8⟩
  have HUU := HU.out
  clear hV
  cases v with
  | false =>
    rw [Bool.false_and] at HUU
    subst HUU
    clear HU
    go_wp2
    go_ret
    exact ⟨by simp, below_chain hb07 hb8⟩
  | true =>
    rw [Bool.true_and] at HUU
    have HQ := Lib.hid HUU
    clear HU HUU
    go_wp2
    go_ret
    exact ⟨by simp; exact HQ.out, below_chain hb07 hb8⟩

theorem rollTells_walk (A : Option Addr) (c : Nat) (l : List Bytes) (i : Int) (root : Nat) (n : Int) (t : Bytes) (B : Option Addr) (d : Nat) (p : List Nat) (w : World) (hm : l.length ≤ maxLen) (hl : ∀ s ∈ l, s.length ≤ maxLen) (hc : l.length ≤ c) (hA : Row w A (scells l)) (ht : t.length ≤ maxLen) (hp : ∀ z ∈ p, z < 18446744073709551616) (hpm : p.length ≤ maxLen) (hd : p.length ≤ d) (hdm : d ≤ maxLen) (hB : Row w B (mcells p)) :
    Calls Try.prog 3 #[.slice A l.length c, .int .i64 i, .int .u64 (root : Int), .int .i64 n, .string (S t), .slice B p.length d] w fun e w' => e = .returned (.bool true) ∧ Below w.heap.size w w' := by
  by_cases hf : rfault l = 0
  · have hg := (rfault_ok l).1 hf
    by_cases h0 : i < 0
    · skip
      by_cases k1 : n < 1
      · exact tells_la A c l root t B d p w hm hl hA ht i hg hc h0 n k1
      by_cases k2 : 40 < n
      · exact tells_lb A c l root t B d p w hm hl hA ht i hg hc h0 n k2
      exact tells_lc A c l root t B d p w hm hl hA ht i hg hc h0 n k1 k2
    · by_cases h1 : (l.length : Int) ≤ i
      · skip
        by_cases k1 : n < 1
        · exact tells_ha A c l root t B d p w hm hl hA ht i hg hc h0 h1 n k1
        by_cases k2 : 40 < n
        · exact tells_hb A c l root t B d p w hm hl hA ht i hg hc h0 h1 n k2
        by_cases k4 : n ≤ i
        · exact tells_hd A c l root t B d p w hm hl hA ht i hg hc h0 h1 n k1 k2 k4
        by_cases k5 : 40 < t.length
        · exact tells_ht A c l root t B d p w hm hl hA ht i hg hc h0 h1 n k1 k2 k4 k5
        obtain ⟨n, rfl⟩ : ∃ j : Nat, n = (j : Int) := ⟨n.toNat, by omega⟩
        obtain ⟨i, rfl⟩ : ∃ j : Nat, i = (j : Int) := ⟨i.toNat, by omega⟩
        exact tells_he A c l root t B d p w hm hl hA hp hpm hd hdm hB i hg hc (by omega) n (by omega) (by omega) (by omega) (by omega)
      · obtain ⟨j, rfl⟩ : ∃ j : Nat, i = (j : Int) := ⟨i.toNat, by omega⟩
        have hj : j < l.length := by omega
        by_cases k1 : n < 1
        · exact tells_oa A c l root t B d p w hm hl hA ht j hg hc hj n k1
        by_cases k2 : 40 < n
        · exact tells_ob A c l root t B d p w hm hl hA ht j hg hc hj n k2
        by_cases k4 : n ≤ (j : Int)
        · exact tells_od A c l root t B d p w hm hl hA ht j hg hc hj n k1 k2 k4
        by_cases k5 : 40 < t.length
        · exact tells_ot A c l root t B d p w hm hl hA ht j hg hc hj n k1 k2 k4 k5
        obtain ⟨n, rfl⟩ : ∃ j : Nat, n = (j : Int) := ⟨n.toNat, by omega⟩
        exact tells_oe A c l root t B d p w hm hl hA hp hpm hd hdm hB j hg hc hj n (by omega) (by omega) (by omega) (by omega)
  · skip
    by_cases k1 : n < 1
    · exact tells_fa A c l root t B d p w hm hl hA ht i _ rfl hf n k1
    by_cases k2 : 40 < n
    · exact tells_fb A c l root t B d p w hm hl hA ht i _ rfl hf n k2
    by_cases k3 : i < 0
    · exact tells_fc A c l root t B d p w hm hl hA ht i _ rfl hf n k1 k2 k3
    by_cases k4 : n ≤ i
    · exact tells_fd A c l root t B d p w hm hl hA ht i _ rfl hf n k1 k2 k3 k4
    by_cases k5 : 40 < t.length
    · exact tells_ft A c l root t B d p w hm hl hA ht i _ rfl hf n k1 k2 k3 k4 k5
    obtain ⟨n, rfl⟩ : ∃ j : Nat, n = (j : Int) := ⟨n.toNat, by omega⟩
    obtain ⟨i, rfl⟩ : ∃ j : Nat, i = (j : Int) := ⟨i.toNat, by omega⟩
    exact tells_fe A c l root t B d p w hm hl hA hp hpm hd hdm hB i _ rfl hf n (by omega) (by omega) (by omega) (by omega)

set_option maxRecDepth 100000 in
theorem rollTells_lifted (os : Os) (started : os.Started) (H : Type) (enc : TypeId × Value → H) :
    ReturnsInHanded {} Try.checked os 3 .any (Rows.rollTellsSpec.pre6 enc Try.prog Try.f3 Rows.rollTellsRow.domain false) (Rows.rollTellsSpec.post enc Try.prog Try.f3 false true false false) := by
  refine returnsInHanded_of_change (C := Try.checked) own started (by kernel_rfl) Try.func3
    (ChangeSpec.witness6 (enc := enc) (C := Try.checked) false ⟨#[], #[.slice none 0 0, .int .i64 0, .int .u64 0, .int .i64 0, .string ⟨#[]⟩, .slice none 0 0], []⟩ 8 (by kernel_rfl) (by kernel_rfl) (by kernel_rfl) (by kernel_rfl)) ?_
  intro W base args ds gs before hval0 hW hcnd _
  have hval : ∀ (j : Nat) t v, Try.f3.params[j]? = some t → args[j]? = some v → Value.okWide Try.prog W .any base t v := hval0
  have hW' := hW
  obtain ⟨p, q, hA0, hV, rfl, hfz, hnd⟩ := hW
  have hA : DataW.TrodAll enc Try.prog W 0 (fun _ => true) true Try.f3.params.toList args.toList ds p := hA0
  rw [Try.params3] at hA hval
  obtain ⟨v0, vs0, d0, ds0, p0, q0, hargs, rfl, rfl, h0, r0⟩ := trodAll_cons hA
  obtain ⟨v1, vs1, d1, ds1, p1, q1, rfl, rfl, rfl, h1, r1⟩ := trodAll_cons r0
  obtain ⟨v2, vs2, d2, ds2, p2, q2, rfl, rfl, rfl, h2, r2⟩ := trodAll_cons r1
  obtain ⟨v3, vs3, d3, ds3, p3, q3, rfl, rfl, rfl, h3, r3⟩ := trodAll_cons r2
  obtain ⟨v4, vs4, d4, ds4, p4, q4, rfl, rfl, rfl, h4, r4⟩ := trodAll_cons r3
  obtain ⟨v5, vs5, d5, ds5, p5, q5, rfl, rfl, rfl, h5, r5⟩ := trodAll_cons r4
  obtain ⟨rfl, rfl, rfl⟩ := trodAll_nil r5
  obtain rfl : args = #[v0, v1, v2, v3, v4, v5] := by cases args; simp_all
  obtain ⟨rfl, rfl⟩ := trodVars_none hV
  obtain ⟨A0, c0, s0, rfl, hm0, hr0, hs0, hc0⟩ := arg_strsC (hval 0 22 v0 rfl rfl) h0
  obtain ⟨x1, rfl, hx1, hy1⟩ := arg_i64 (hval 1 3 v1 rfl rfl) h1
  obtain ⟨n2, rfl, hn2⟩ := arg_u64 (hval 2 23 v2 rfl rfl) h2
  obtain ⟨x3, rfl, hx3, hy3⟩ := arg_i64 (hval 3 3 v3 rfl rfl) h3
  obtain ⟨l4, rfl, hl4⟩ := arg_str (hval 4 9 v4 rfl rfl) h4
  obtain ⟨A5, c5, s5, rfl, hm5, hr5, hs5, hc5, hx5⟩ := arg_marksC (hval 5 24 v5 rfl rfl) h5
  refine (rollTells_walk A0 c0 s0 x1 n2 x3 l4 A5 c5 s5 _ hm0 hs0 hc0 hr0 hl4 hs5 hm5 hc5 hx5 hr5).mono fun e W' ⟨he, hb⟩ => ?_
  subst he
  exact ⟨_, rfl, post_law laidOut (by decide +kernel) rfl Try.underlying4 (by kernel_rfl) hW' rfl hb⟩

/-- The statement. -/
theorem rollTells_said : Rows.RollTellsSaid :=
  OpenClaim.holds_of_wide 3 Try.f3 rfl rfl rfl rfl rfl rfl rfl ⟨rfl, rfl, rfl, rfl, rfl⟩ rfl rfl rfl rfl rfl (by kernel_rfl) Try.func3 (by kernel_rfl)
    (of_decide_eq_true (by kernel_rfl)) (by unfold Func.isWrapper; first | (rw [if_pos (by decide +kernel)]; kernel_rfl) | (rw [if_neg (by decide +kernel)]; exact ⟨rfl, rfl⟩))
    (fun os started H enc _ => rollTells_lifted os started H enc)
#print axioms rollTells_said
end Go.Proofs.Ytlobpjpkldmnaaa
