/- The reference: Mul is the product modulo M, Power the base's power, Mark the hash by powers from the end on; they write nothing. -/
import Derived.Test.YtlobpjpkldmnaaaMark
import Derived.Test.YtlobpjpkldmnaaaBase
namespace Go.Proofs.Ytlobpjpkldmnaaa
open Go.RowKit

/-- What holds between two rounds of Mul. -/
def MulAt (L r k x y o : Nat) : Prop := k ≤ L ∧ x < 2305843009213693951 ∧ o < 2305843009213693951 ∧ y < 18446744073709551616 ∧ y < 2 ^ (L - k) ∧ (o + x * y) % 2305843009213693951 = r
theorem MulAt.odd {L r k x y o : Nat} (h : MulAt L r k x y o) (hk : k < L) (hy : y % 2 = 1) : MulAt L r (k + 1) (2 * x % 2305843009213693951) (y / 2) ((o + x) % 2305843009213693951) := by
  obtain ⟨h1, h2, h3, h4, h5, h6⟩ := h
  have e : L - k = (L - (k + 1)) + 1 := by omega
  rw [e, Nat.pow_succ] at h5
  refine ⟨by omega, Nat.mod_lt _ (by decide), Nat.mod_lt _ (by decide), by omega, by omega, ?_⟩
  rw [(Hash.bit_step o x y).1, show 2 * (y / 2) + 1 = y by omega]
  exact h6
theorem MulAt.even {L r k x y o : Nat} (h : MulAt L r k x y o) (hk : k < L) (hy : y % 2 = 0) : MulAt L r (k + 1) (2 * x % 2305843009213693951) (y / 2) o := by
  obtain ⟨h1, h2, h3, h4, h5, h6⟩ := h
  have e : L - k = (L - (k + 1)) + 1 := by omega
  rw [e, Nat.pow_succ] at h5
  refine ⟨by omega, Nat.mod_lt _ (by decide), h3, by omega, by omega, ?_⟩
  rw [(Hash.bit_step o x y).2, show 2 * (y / 2) = y by omega]
  exact h6
theorem MulAt.done {L r x y o : Nat} (h : MulAt L r L x y o) : o = r := by
  obtain ⟨h1, h2, h3, h4, h5, h6⟩ := h
  rw [Nat.sub_self] at h5
  obtain rfl : y = 0 := by omega
  rw [Nat.mul_zero, Nat.add_zero, Nat.mod_eq_of_lt h3] at h6
  exact h6

set_option maxRecDepth 100000 in
set_option maxHeartbeats 400000 in
theorem refMul (a b r : Nat) (w : World) (ha : a < 18446744073709551616) (hb : b < 18446744073709551616) (hr : a * b % 2305843009213693951 = r) :
    Calls Try.prog 43 #[.int .u64 (a : Int), .int .u64 (b : Int)] w fun e w' => e = .returned (.int .u64 (r : Int)) ∧ w = w' := by
  obtain ⟨L, hL, hLb, hC⟩ := len64 b w hb
  have HC := Lib.hid hC
  have H0 : Hid (MulAt L r 0 (a % 2305843009213693951) b 0) := by
    refine ⟨Nat.zero_le _, Nat.mod_lt _ (by decide), by decide, hb, hLb, ?_⟩
    rw [Nat.zero_add, Nat.mod_mul_mod, hr]
  clear hC hLb hr hb
  go_enter Try.func43, Try.ntmps43
  go_wp2_with fail
  refine HC.out.mono ?_
  rintro e w1 ⟨rfl, rfl⟩
  clear HC
  go_wp2
  go_loop [0, 1, 5, 10] (fun a b o i => ∃ k x y z : Nat, a = .int .u64 x ∧ b = .int .u64 y ∧ o = .int .u64 z ∧ i = .int .i64 k ∧ Hid (MulAt L r k x y z)) (fun _ _ _ i => L - (intOf i).toNat)
  case atStart => exact ⟨0, _, b, 0, by rfl, rfl, rfl, rfl, H0⟩
  case round =>
    obtain ⟨k, x, y, z, rfl, rfl, rfl, rfl, H⟩ := hrel
    by_cases hlt : k < L
    · obtain ⟨h1, h2, h3, h4, -, -⟩ := H.out
      by_cases hy : y % 2 = 1
      · go_wp2
        go_round
        case rel => exact ⟨k + 1, 2 * x % 2305843009213693951, y / 2, (z + x) % 2305843009213693951, by go_num, by go_num, by go_num, by go_num, H.out.odd hlt hy⟩
        case measure => simp [intOf]; omega
      · have hy0 : y % 2 = 0 := by omega
        have hd : ((y : Int) % 2 == 1) = false := by simp; omega
        clear hy
        go_wp2
        go_round
        case rel => exact ⟨k + 1, 2 * x % 2305843009213693951, y / 2, z, by go_num, by go_num, rfl, by go_num, H.out.even hlt hy0⟩
        case measure => simp [intOf]; omega
    · obtain ⟨h1, -, -, -, -, -⟩ := H.out
      obtain rfl : k = L := by omega
      have e := H.out.done
      subst e
      clear H
      go_wp2
      go_ret
      exact ⟨rfl, rfl⟩

theorem refMul_left (b r : Nat) (w : World) (hb : b < 18446744073709551616) (hr : b * 1099511628211 % 2305843009213693951 = r) :
    Calls Try.prog 43 #[.int .u64 1099511628211, .int .u64 (b : Int)] w fun e w' => e = .returned (.int .u64 (r : Int)) ∧ w = w' :=
  refMul 1099511628211 b r w (by decide) hb (by rw [Nat.mul_comm, hr])
theorem refMul_right (a r : Nat) (w : World) (ha : a < 18446744073709551616) (hr : a * 1099511628211 % 2305843009213693951 = r) :
    Calls Try.prog 43 #[.int .u64 (a : Int), .int .u64 1099511628211] w fun e w' => e = .returned (.int .u64 (r : Int)) ∧ w = w' :=
  refMul a 1099511628211 r w ha (by decide) hr
theorem refMul_c (a : Nat) (c : UInt8) (r : Nat) (w : World) (ha : a < 18446744073709551616) (hr : a * (c.toNat + 1) % 2305843009213693951 = r) :
    Calls Try.prog 43 #[.int .u64 (a : Int), .int .u64 ((c.toNat : Int) + 1)] w fun e w' => e = .returned (.int .u64 (r : Int)) ∧ w = w' :=
  refMul a (c.toNat + 1) r w ha (by have := c.toNat_lt; omega) hr
theorem pw_lt64 (n : Nat) : Hash.pw n < 18446744073709551616 := Nat.lt_trans (Hash.pw_lt n) (by decide)


set_option maxRecDepth 100000 in
set_option maxHeartbeats 400000 in
theorem refMark (l : Bytes) (w : World) (hl : l.length ≤ maxLen) :
    Calls Try.prog 30 #[.string (S l)] w fun e w' => e = .returned (.int .u64 (Hash.of l : Int)) ∧ w = w' := by
  unfold maxLen at hl
  go_enter Try.func30, Try.ntmps30
  go_wp2
  go_loop [3, 4, 5] (fun s p i => ∃ k : Nat, k ≤ l.length ∧ i = .int .i64 ((k : Int) - 1) ∧ s = .int .u64 (Hash.sum (l.drop k) : Nat) ∧ p = .int .u64 (Hash.pw (l.length - k) : Nat)) (fun _ _ i => (intOf i + 1).toNat)
  case atStart => exact ⟨l.length, Nat.le_refl _, by go_num, by rw [List.drop_length]; rfl, by rw [Nat.sub_self]; rfl⟩
  case round =>
    obtain ⟨k, hk, rfl, rfl, rfl⟩ := hrel
    by_cases hlt : 0 < k
    · obtain ⟨j, rfl⟩ : ∃ j, k = j + 1 := ⟨k - 1, by omega⟩
      rw [show ((j + 1 : Nat) : Int) - 1 = (j : Int) by omega]
      have hi0 : (0 : Int) ≤ (j : Int) := by omega
      have hi1 : (j : Int) < (l.length : Int) := by omega
      have hj : j < l.length := by omega
      have hn : Hash.sum (l.drop (j + 1)) < 2305843009213693951 := Hash.sum_lt _
      have HS : Hid (Hash.sum (l.drop j) = (Hash.sum (l.drop (j + 1)) + Hash.pw (l.length - (j + 1)) * (l[j].toNat + 1) % 2305843009213693951) % 2305843009213693951) := by
        show Hash.sum (l.drop j) = _
        rw [Hash.drop_sum l j hj, Nat.add_mod_mod]
      have hp := pw_lt64 (l.length - (j + 1))
      have hc := l[j].toNat_lt
      have HQ : Hid (Hash.pw (l.length - (j + 1)) * 1099511628211 % 2305843009213693951 = Hash.pw (l.length - j)) := by
        show Hash.pw (l.length - (j + 1)) * 1099511628211 % 2305843009213693951 = Hash.pw (l.length - j)
        rw [show l.length - j = (l.length - (j + 1)) + 1 by omega]; rfl
      have ht1 := fun w => Lib.hid (refMul_c (Hash.pw (l.length - (j + 1))) l[j] _ w hp rfl)
      have hr : Hash.pw (l.length - (j + 1)) * (l[j].toNat + 1) % 2305843009213693951 < 2305843009213693951 := Nat.mod_lt _ (by decide)
      have ht2 := fun w => Lib.hid (refMul_right (Hash.pw (l.length - (j + 1))) _ w hp HQ.out)
      clear HQ
      generalize Hash.pw (l.length - (j + 1)) * (l[j].toNat + 1) % 2305843009213693951 = t at *
      generalize Hash.pw (l.length - (j + 1)) = x at *
      generalize Hash.sum (l.drop (j + 1)) = s at *
      go_wp2_with fail
      refine (ht1 _).out.mono ?_
      rintro e w1 ⟨rfl, rfl⟩
      go_wp2_with fail
      refine (ht2 _).out.mono ?_
      rintro e w1 ⟨rfl, rfl⟩
      go_wp2
      go_round
      case rel => exact ⟨j, by omega, by go_num, by rw [HS.out]; rfl, rfl⟩
      case measure => simp [intOf]
    · obtain rfl : k = 0 := by omega
      have HO := Lib.hid (Hash.of_eq l)
      have h1 : Hash.sum l < 2305843009213693951 := Hash.sum_lt _
      have h2 : Hash.pw l.length < 2305843009213693951 := Hash.pw_lt _
      rw [List.drop_zero, Nat.sub_zero]
      generalize Hash.sum l = s at *
      generalize Hash.pw l.length = p at *
      go_wp2
      go_ret
      refine ⟨congrArg Ending.returned ?_, rfl⟩
      rw [HO.out]
      go_num
end Go.Proofs.Ytlobpjpkldmnaaa
