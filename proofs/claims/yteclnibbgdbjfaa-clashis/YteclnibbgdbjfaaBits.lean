/- math/bits: Mul64 returns both halves of the product; Len64 returns a number of bits that suffices. Both write nothing. -/
import Derived.Test.YteclnibbgdbjfaaKit
import Derived.Test.YteclnibbgdbjfaaHash
import Derived.Laws.BitsAllLaws
import Derived.Lib.Mul64
import Derived.Lib.BitFns
namespace Go.Proofs.Yteclnibbgdbjfaa
open Go.RowKit

namespace M64
theorem maskN (a : Nat) (ha : a < 18446744073709551616) : bits .and .u64 (a : Int) 4294967295 = ((a % 4294967296 : Nat) : Int) := by
  have h := u64_and_nat a 4294967295 ha (by omega)
  have e : a &&& 4294967295 = a % 4294967296 := Nat.and_two_pow_sub_one_eq_mod a 32
  rw [e] at h
  exact h
theorem mask61 (a : Nat) (ha : a < 18446744073709551616) : bits .and .u64 (a : Int) 2305843009213693951 = ((a % 2305843009213693952 : Nat) : Int) := by
  have h := u64_and_nat a 2305843009213693951 ha (by omega)
  have e : a &&& 2305843009213693951 = a % 2305843009213693952 := Nat.and_two_pow_sub_one_eq_mod a 61
  rw [e] at h
  exact h
theorem or3 (a b : Nat) (ha : a < 288230376151711744) (hb : b < 8) : bits .or .u64 ((a : Int) * 8) (b : Int) = ((a * 8 + b : Nat) : Int) := by
  have e1 : (a : Int) * (8 : Int) = ((a <<< 3 : Nat) : Int) := by rw [Nat.shiftLeft_eq]; omega
  rw [e1, u64_or_nat _ _ (by rw [Nat.shiftLeft_eq]; omega) (by omega), ← Nat.shiftLeft_add_eq_or_of_lt (by omega : b < 2 ^ 3), Nat.shiftLeft_eq]
theorem divN (a : Nat) : (a : Int) / 4294967296 = ((a / 4294967296 : Nat) : Int) := by omega
theorem mulN (a b : Nat) : (a : Int) * (b : Int) = ((a * b : Nat) : Int) := (Int.natCast_mul a b).symm
theorem addN (a b : Nat) : (a : Int) + (b : Int) = ((a + b : Nat) : Int) := (Int.natCast_add a b).symm
theorem wrapN (a : Nat) (ha : a < 18446744073709551616) : IntKind.u64.wrap (a : Int) = (a : Int) := by rw [IntKind.wrap_u64]; omega
theorem wrapM (a : Nat) : IntKind.u64.wrap (a : Int) = ((a % 18446744073709551616 : Nat) : Int) := by rw [IntKind.wrap_u64]; omega
end M64

set_option maxRecDepth 100000 in
set_option maxHeartbeats 1000000 in
theorem mul64 (x y : Nat) (hx : x < 18446744073709551616) (hy : y < 18446744073709551616) (w : World) :
    Calls Try.prog 52 #[.int .u64 x, .int .u64 y] w fun e w' => e = .returned (.tuple #[.int .u64 ((x * y / 18446744073709551616 : Nat) : Int), .int .u64 ((x * y % 18446744073709551616 : Nat) : Int)]) ∧ w = w' := by
  obtain ⟨bd, bt, bw, hhi⟩ := Lib.mul64_hi x y hx hy
  have ba := Lib.half_mul_le (a := x / 4294967296) (b := y / 4294967296) (by omega) (by omega)
  have bb := Lib.half_mul_le (a := x / 4294967296) (b := y % 4294967296) (by omega) (by omega)
  have bc := Lib.half_mul_le (a := x % 4294967296) (b := y / 4294967296) (by omega) (by omega)
  have ba' : x / 4294967296 * (y / 4294967296) < 18446744073709551616 := by omega
  have bb' : x / 4294967296 * (y % 4294967296) < 18446744073709551616 := by omega
  have bc' : x % 4294967296 * (y / 4294967296) < 18446744073709551616 := by omega
  have bh1 : x / 4294967296 * (y / 4294967296) + (x / 4294967296 * (y % 4294967296) + x % 4294967296 * (y % 4294967296) / 4294967296) / 4294967296 < 18446744073709551616 := by omega
  have bh : x / 4294967296 * (y / 4294967296) + (x / 4294967296 * (y % 4294967296) + x % 4294967296 * (y % 4294967296) / 4294967296) / 4294967296 + ((x / 4294967296 * (y % 4294967296) + x % 4294967296 * (y % 4294967296) / 4294967296) % 4294967296 + x % 4294967296 * (y / 4294967296)) / 4294967296 < 18446744073709551616 := by omega
  go_enter Try.func52, Try.ntmps52
  go_wp2
  simp only [M64.maskN x hx, M64.maskN y hy, M64.divN, M64.mulN, M64.addN, M64.wrapN _ bd, M64.wrapN _ bb', M64.wrapN _ bt, M64.maskN _ bt, M64.wrapN _ bc', M64.wrapN _ bw, M64.wrapN _ ba', M64.wrapN _ bh1, M64.wrapN _ bh, M64.wrapM (x * y)]
  rw [hhi]
  go_ret2
  exact ⟨rfl, rfl⟩

theorem lt_bitLen : ∀ (k x : Nat), x < 2 ^ k → k ≤ 64 → x < 2 ^ Lib.bitLen x := by
  intro k
  induction k with
  | zero =>
    intro x hx _
    obtain rfl : x = 0 := by omega
    decide +kernel
  | succ k ih =>
    intro x hx hk
    by_cases h0 : x = 0
    · subst h0; decide +kernel
    · have h64 : x < 2 ^ 64 := Nat.lt_of_lt_of_le hx (Nat.pow_le_pow_right (by decide) hk)
      rw [Lib.bitLen_half x h0 h64, Nat.add_comm, Nat.pow_succ]
      have := ih (x / 2) (by rw [Nat.pow_succ] at hx; omega) (by omega)
      omega

theorem tab_at (i : Int) (h : i.toNat < Lib.len8tab.size) (h0 : 0 ≤ i) : ((Lib.len8tab[i.toNat]'h).toNat : Int) = (Lib.bitLen i.toNat : Int) := by
  have h' := h
  rw [Lib.len8tab_size] at h'
  have e := Lib.len8_of i h0 (by omega)
  simp only [Lib.len8, ByteArray.getElem?_lt' _ _ h, Option.getD_some] at e
  exact e
theorem len_end (K : Int) (n : Nat) (i x : Int) (h : i.toNat < Lib.len8tab.size) (hK : K = (n : Int)) (hn : n ≤ 56) (hi0 : 0 ≤ i) (hx0 : 0 ≤ x) (hx1 : x ≤ 18446744073709551615) (e : i.toNat = x.toNat / 2 ^ n) (hle : n = 0 ∨ 2 ^ n ≤ x.toNat) :
    wrap64 (K + wrap64 ((Lib.len8tab[i.toNat]'h).toNat : Int)) = (Lib.bitLen x.toNat : Int) := by
  have h' := h
  rw [Lib.len8tab_size] at h'
  have l := Lib.bitLen_le8' i hi0 (by omega)
  have s : Lib.bitLen x.toNat = n + Lib.bitLen i.toNat := by
    rw [e]
    rcases hle with rfl | hle
    · rw [Nat.pow_zero, Nat.div_one, Nat.zero_add]
    · exact Lib.bitLen_shift n x.toNat hle (by omega)
  have t := tab_at i h hi0
  generalize Lib.bitLen i.toNat = q at *
  generalize Lib.bitLen x.toNat = r at *
  generalize ((Lib.len8tab[i.toNat]'h).toNat : Int) = u at *
  subst hK s t
  unfold wrap64
  omega

set_option maxHeartbeats 400000 in
set_option maxRecDepth 100000 in
theorem len64_int (x : Int) (w : World) (h0 : 0 ≤ x) (h1 : x ≤ 18446744073709551615) :
    Calls Try.prog 58 #[.int .u64 x] w fun e w' => e = .returned (.int .i64 (Lib.bitLen x.toNat)) ∧ w = w' := by
  have hz : (Lib.len8tab.size : Int) = 256 := by rw [Lib.len8tab_size]; rfl
  go_enter Try.func58, Try.ntmps58
  go_wp2
  · go_ret
    exact ⟨congrArg Ending.returned (congrArg (Value.int IntKind.i64) (len_end 56 56 _ x _ rfl (by decide) (by omega) h0 h1 (by simp only [Nat.reducePow]; omega) (.inr (by simp only [Nat.reducePow]; omega)))), rfl⟩
  · go_ret
    exact ⟨congrArg Ending.returned (congrArg (Value.int IntKind.i64) (len_end 48 48 _ x _ rfl (by decide) (by omega) h0 h1 (by simp only [Nat.reducePow]; omega) (.inr (by simp only [Nat.reducePow]; omega)))), rfl⟩
  · go_ret
    exact ⟨congrArg Ending.returned (congrArg (Value.int IntKind.i64) (len_end 40 40 _ x _ rfl (by decide) (by omega) h0 h1 (by simp only [Nat.reducePow]; omega) (.inr (by simp only [Nat.reducePow]; omega)))), rfl⟩
  · go_ret
    exact ⟨congrArg Ending.returned (congrArg (Value.int IntKind.i64) (len_end 32 32 _ x _ rfl (by decide) (by omega) h0 h1 (by simp only [Nat.reducePow]; omega) (.inr (by simp only [Nat.reducePow]; omega)))), rfl⟩
  · go_ret
    exact ⟨congrArg Ending.returned (congrArg (Value.int IntKind.i64) (len_end 24 24 _ x _ rfl (by decide) (by omega) h0 h1 (by simp only [Nat.reducePow]; omega) (.inr (by simp only [Nat.reducePow]; omega)))), rfl⟩
  · go_ret
    exact ⟨congrArg Ending.returned (congrArg (Value.int IntKind.i64) (len_end 16 16 _ x _ rfl (by decide) (by omega) h0 h1 (by simp only [Nat.reducePow]; omega) (.inr (by simp only [Nat.reducePow]; omega)))), rfl⟩
  · go_ret
    exact ⟨congrArg Ending.returned (congrArg (Value.int IntKind.i64) (len_end 8 8 _ x _ rfl (by decide) (by omega) h0 h1 (by simp only [Nat.reducePow]; omega) (.inr (by simp only [Nat.reducePow]; omega)))), rfl⟩
  · go_ret
    refine ⟨congrArg Ending.returned (congrArg (Value.int IntKind.i64) ?_), rfl⟩
    have e := len_end 0 0 x x (by rw [Lib.len8tab_size]; omega) rfl (by decide) h0 h0 h1 (by simp) (.inl rfl)
    rw [Int.zero_add] at e
    exact e

theorem len64 (x : Nat) (w : World) (hx : x < 18446744073709551616) :
    ∃ L : Nat, L ≤ 64 ∧ x < 2 ^ L ∧ Calls Try.prog 58 #[.int .u64 (x : Int)] w fun e w' => e = .returned (.int .i64 (L : Int)) ∧ w = w' := by
  refine ⟨Lib.bitLen x, Lib.bitLen_le x 64 (by decide) hx, lt_bitLen 64 x hx (by decide), ?_⟩
  have h := len64_int (x : Int) w (by omega) (by omega)
  rwa [show (x : Int).toNat = x by omega] at h
end Go.Proofs.Yteclnibbgdbjfaa
