/- math/bits: Mul64 returns both halves of the product; Len64 returns a number of bits that suffices. Both write nothing. -/
import Derived.Test.YtknhohlpjhkmfaaKit
import Derived.Test.YtknhohlpjhkmfaaBase
import Derived.Laws.BitsAllLaws
import Derived.Lib.Mul64
import Derived.Lib.BitFns
namespace Go.Proofs.Ytknhohlpjhkmfaa
open Go.RowKit

namespace M64
theorem maskN (a : Nat) (ha : a < 18446744073709551616) : bits .and .u64 (a : Int) 4294967295 = ((a % 4294967296 : Nat) : Int) := by
  have h := u64_and_nat a 4294967295 ha (by omega)
  have e : a &&& 4294967295 = a % 4294967296 := Nat.and_two_pow_sub_one_eq_mod a 32
  rw [e] at h
  exact h
theorem mask61 (a : Nat) (ha : a < 18446744073709551616) : bits .and .u64 (a : Int) 2305843009213693951 = ((a % 2305843009213693952 : Nat) : Int) := by
  have h := u64_and_nat a 2305843009213693951 ha (by omega)
  have e : a &&& 2305843009213693951 = a % 2305843009213693952 := Nat.and_two_pow_sub_one_eq_mod a 61
  rw [e] at h
  exact h
theorem or3 (a b : Nat) (ha : a < 288230376151711744) (hb : b < 8) : bits .or .u64 ((a : Int) * 8) (b : Int) = ((a * 8 + b : Nat) : Int) := by
  have e1 : (a : Int) * (8 : Int) = ((a <<< 3 : Nat) : Int) := by rw [Nat.shiftLeft_eq]; omega
  rw [e1, u64_or_nat _ _ (by rw [Nat.shiftLeft_eq]; omega) (by omega), ← Nat.shiftLeft_add_eq_or_of_lt (by omega : b < 2 ^ 3), Nat.shiftLeft_eq]
theorem divN (a : Nat) : (a : Int) / 4294967296 = ((a / 4294967296 : Nat) : Int) := by omega
theorem mulN (a b : Nat) : (a : Int) * (b : Int) = ((a * b : Nat) : Int) := (Int.natCast_mul a b).symm
theorem addN (a b : Nat) : (a : Int) + (b : Int) = ((a + b : Nat) : Int) := (Int.natCast_add a b).symm
theorem wrapN (a : Nat) (ha : a < 18446744073709551616) : IntKind.u64.wrap (a : Int) = (a : Int) := by rw [IntKind.wrap_u64]; omega
theorem wrapM (a : Nat) : IntKind.u64.wrap (a : Int) = ((a % 18446744073709551616 : Nat) : Int) := by rw [IntKind.wrap_u64]; omega
end M64


theorem lt_bitLen : ∀ (k x : Nat), x < 2 ^ k → k ≤ 64 → x < 2 ^ Lib.bitLen x := by
  intro k
  induction k with
  | zero =>
    intro x hx _
    obtain rfl : x = 0 := by omega
    decide +kernel
  | succ k ih =>
    intro x hx hk
    by_cases h0 : x = 0
    · subst h0; decide +kernel
    · have h64 : x < 2 ^ 64 := Nat.lt_of_lt_of_le hx (Nat.pow_le_pow_right (by decide) hk)
      rw [Lib.bitLen_half x h0 h64, Nat.add_comm, Nat.pow_succ]
      have := ih (x / 2) (by rw [Nat.pow_succ] at hx; omega) (by omega)
      omega

theorem tab_at (i : Int) (h : i.toNat < Lib.len8tab.size) (h0 : 0 ≤ i) : ((Lib.len8tab[i.toNat]'h).toNat : Int) = (Lib.bitLen i.toNat : Int) := by
  have h' := h
  rw [Lib.len8tab_size] at h'
  have e := Lib.len8_of i h0 (by omega)
  simp only [Lib.len8, ByteArray.getElem?_lt' _ _ h, Option.getD_some] at e
  exact e
theorem len_end (K : Int) (n : Nat) (i x : Int) (h : i.toNat < Lib.len8tab.size) (hK : K = (n : Int)) (hn : n ≤ 56) (hi0 : 0 ≤ i) (hx0 : 0 ≤ x) (hx1 : x ≤ 18446744073709551615) (e : i.toNat = x.toNat / 2 ^ n) (hle : n = 0 ∨ 2 ^ n ≤ x.toNat) :
    wrap64 (K + wrap64 ((Lib.len8tab[i.toNat]'h).toNat : Int)) = (Lib.bitLen x.toNat : Int) := by
  have h' := h
  rw [Lib.len8tab_size] at h'
  have l := Lib.bitLen_le8' i hi0 (by omega)
  have s : Lib.bitLen x.toNat = n + Lib.bitLen i.toNat := by
    rw [e]
    rcases hle with rfl | hle
    · rw [Nat.pow_zero, Nat.div_one, Nat.zero_add]
    · exact Lib.bitLen_shift n x.toNat hle (by omega)
  have t := tab_at i h hi0
  generalize Lib.bitLen i.toNat = q at *
  generalize Lib.bitLen x.toNat = r at *
  generalize ((Lib.len8tab[i.toNat]'h).toNat : Int) = u at *
  subst hK s t
  unfold wrap64
  omega

end Go.Proofs.Ytknhohlpjhkmfaa
/- package mark: times, Of, power and Join return what the plain arithmetic says; they write nothing. -/
namespace Go.Proofs.Ytknhohlpjhkmfaa
open Go.RowKit

theorem times_val (p q : Nat) (h1 : p < 288230376151711744) (h3 : q < 18446744073709551616) :
    (IntKind.u64.wrap (bits .or .u64 ((p : Int) * 8) ((q : Int) / 2305843009213693952) + bits .and .u64 (q : Int) 2305843009213693951)).tmod 2305843009213693951 = (((p * 8 + q / 2305843009213693952 + q % 2305843009213693952) % 2305843009213693951 : Nat) : Int) := by
  rw [M64.mask61 q h3, show (q : Int) / 2305843009213693952 = ((q / 2305843009213693952 : Nat) : Int) by omega, M64.or3 _ _ h1 (by omega), M64.addN, M64.wrapN _ (by omega)]
  rfl


end Go.Proofs.Ytknhohlpjhkmfaa
