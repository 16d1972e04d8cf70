/- The reference: Mul is the product modulo M, Power the base's power, Mark the hash by powers from the end on; they write nothing. -/
import Derived.Test.YtknhohlpjhkmfaaMark
import Derived.Test.YtknhohlpjhkmfaaBase
namespace Go.Proofs.Ytknhohlpjhkmfaa
open Go.RowKit

/-- What holds between two rounds of Mul. -/
def MulAt (L r k x y o : Nat) : Prop := k ≤ L ∧ x < 2305843009213693951 ∧ o < 2305843009213693951 ∧ y < 18446744073709551616 ∧ y < 2 ^ (L - k) ∧ (o + x * y) % 2305843009213693951 = r
theorem MulAt.odd {L r k x y o : Nat} (h : MulAt L r k x y o) (hk : k < L) (hy : y % 2 = 1) : MulAt L r (k + 1) (2 * x % 2305843009213693951) (y / 2) ((o + x) % 2305843009213693951) := by
  obtain ⟨h1, h2, h3, h4, h5, h6⟩ := h
  have e : L - k = (L - (k + 1)) + 1 := by omega
  rw [e, Nat.pow_succ] at h5
  refine ⟨by omega, Nat.mod_lt _ (by decide), Nat.mod_lt _ (by decide), by omega, by omega, ?_⟩
  rw [(Hash.bit_step o x y).1, show 2 * (y / 2) + 1 = y by omega]
  exact h6
theorem MulAt.even {L r k x y o : Nat} (h : MulAt L r k x y o) (hk : k < L) (hy : y % 2 = 0) : MulAt L r (k + 1) (2 * x % 2305843009213693951) (y / 2) o := by
  obtain ⟨h1, h2, h3, h4, h5, h6⟩ := h
  have e : L - k = (L - (k + 1)) + 1 := by omega
  rw [e, Nat.pow_succ] at h5
  refine ⟨by omega, Nat.mod_lt _ (by decide), h3, by omega, by omega, ?_⟩
  rw [(Hash.bit_step o x y).2, show 2 * (y / 2) = y by omega]
  exact h6
theorem MulAt.done {L r x y o : Nat} (h : MulAt L r L x y o) : o = r := by
  obtain ⟨h1, h2, h3, h4, h5, h6⟩ := h
  rw [Nat.sub_self] at h5
  obtain rfl : y = 0 := by omega
  rw [Nat.mul_zero, Nat.add_zero, Nat.mod_eq_of_lt h3] at h6
  exact h6

theorem pw_lt64 (n : Nat) : Hash.pw n < 18446744073709551616 := Nat.lt_trans (Hash.pw_lt n) (by decide)


end Go.Proofs.Ytknhohlpjhkmfaa
