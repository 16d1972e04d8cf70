/- math/bits: Mul64 returns both halves of the product; Len64 returns a number of bits that suffices. Both write nothing. -/
import Derived.Test.YtjcockcilkiggaaGreatJ01
import Derived.Test.YtjcockcilkiggaaGreatJ03
import Derived.Laws.BitsAllLaws
import Derived.Lib.Mul64
import Derived.Lib.BitFns
namespace Go.Proofs.YtjcockcilkiggaaGreat
open Go.RowKit

namespace M64
theorem maskN (a : Nat) (ha : a < 18446744073709551616) : bits .and .u64 (a : Int) 4294967295 = ((a % 4294967296 : Nat) : Int) := by
  have h := u64_and_nat a 4294967295 ha (by omega)
  have e : a &&& 4294967295 = a % 4294967296 := Nat.and_two_pow_sub_one_eq_mod a 32
  rw [e] at h
  exact h
theorem mask61 (a : Nat) (ha : a < 18446744073709551616) : bits .and .u64 (a : Int) 2305843009213693951 = ((a % 2305843009213693952 : Nat) : Int) := by
  have h := u64_and_nat a 2305843009213693951 ha (by omega)
  have e : a &&& 2305843009213693951 = a % 2305843009213693952 := Nat.and_two_pow_sub_one_eq_mod a 61
  rw [e] at h
  exact h
theorem or3 (a b : Nat) (ha : a < 288230376151711744) (hb : b < 8) : bits .or .u64 ((a : Int) * 8) (b : Int) = ((a * 8 + b : Nat) : Int) := by
  have e1 : (a : Int) * (8 : Int) = ((a <<< 3 : Nat) : Int) := by rw [Nat.shiftLeft_eq]; omega
  rw [e1, u64_or_nat _ _ (by rw [Nat.shiftLeft_eq]; omega) (by omega), ← Nat.shiftLeft_add_eq_or_of_lt (by omega : b < 2 ^ 3), Nat.shiftLeft_eq]
theorem divN (a : Nat) : (a : Int) / 4294967296 = ((a / 4294967296 : Nat) : Int) := by omega
theorem mulN (a b : Nat) : (a : Int) * (b : Int) = ((a * b : Nat) : Int) := (Int.natCast_mul a b).symm
theorem addN (a b : Nat) : (a : Int) + (b : Int) = ((a + b : Nat) : Int) := (Int.natCast_add a b).symm
theorem wrapN (a : Nat) (ha : a < 18446744073709551616) : IntKind.u64.wrap (a : Int) = (a : Int) := by rw [IntKind.wrap_u64]; omega
theorem wrapM (a : Nat) : IntKind.u64.wrap (a : Int) = ((a % 18446744073709551616 : Nat) : Int) := by rw [IntKind.wrap_u64]; omega
end M64

set_option maxRecDepth 100000 in
set_option maxHeartbeats 1000000 in
theorem mul64 (x y : Nat) (hx : x < 18446744073709551616) (hy : y < 18446744073709551616) (w : World) :
    Calls Tryz.prog 101 #[.int .u64 x, .int .u64 y] w fun e w' => e = .returned (.tuple #[.int .u64 ((x * y / 18446744073709551616 : Nat) : Int), .int .u64 ((x * y % 18446744073709551616 : Nat) : Int)]) ∧ w = w' := by
  obtain ⟨bd, bt, bw, hhi⟩ := Lib.mul64_hi x y hx hy
  have ba := Lib.half_mul_le (a := x / 4294967296) (b := y / 4294967296) (by omega) (by omega)
  have bb := Lib.half_mul_le (a := x / 4294967296) (b := y % 4294967296) (by omega) (by omega)
  have bc := Lib.half_mul_le (a := x % 4294967296) (b := y / 4294967296) (by omega) (by omega)
  have ba' : x / 4294967296 * (y / 4294967296) < 18446744073709551616 := by omega
  have bb' : x / 4294967296 * (y % 4294967296) < 18446744073709551616 := by omega
  have bc' : x % 4294967296 * (y / 4294967296) < 18446744073709551616 := by omega
  have bh1 : x / 4294967296 * (y / 4294967296) + (x / 4294967296 * (y % 4294967296) + x % 4294967296 * (y % 4294967296) / 4294967296) / 4294967296 < 18446744073709551616 := by omega
  have bh : x / 4294967296 * (y / 4294967296) + (x / 4294967296 * (y % 4294967296) + x % 4294967296 * (y % 4294967296) / 4294967296) / 4294967296 + ((x / 4294967296 * (y % 4294967296) + x % 4294967296 * (y % 4294967296) / 4294967296) % 4294967296 + x % 4294967296 * (y / 4294967296)) / 4294967296 < 18446744073709551616 := by omega
  go_enter Tryz.func101, Tryz.ntmps101
  go_wp2
  simp only [M64.maskN x hx, M64.maskN y hy, M64.divN, M64.mulN, M64.addN, M64.wrapN _ bd, M64.wrapN _ bb', M64.wrapN _ bt, M64.maskN _ bt, M64.wrapN _ bc', M64.wrapN _ bw, M64.wrapN _ ba', M64.wrapN _ bh1, M64.wrapN _ bh, M64.wrapM (x * y)]
  rw [hhi]
  go_ret2
  exact ⟨rfl, rfl⟩

theorem lt_bitLen : ∀ (k x : Nat), x < 2 ^ k → k ≤ 64 → x < 2 ^ Lib.bitLen x := by
  intro k
  induction k with
  | zero =>
    intro x hx _
    obtain rfl : x = 0 := by omega
    decide +kernel
  | succ k ih =>
    intro x hx hk
    by_cases h0 : x = 0
    · subst h0; decide +kernel
    · have h64 : x < 2 ^ 64 := Nat.lt_of_lt_of_le hx (Nat.pow_le_pow_right (by decide) hk)
      rw [Lib.bitLen_half x h0 h64, Nat.add_comm, Nat.pow_succ]
      have := ih (x / 2) (by rw [Nat.pow_succ] at hx; omega) (by omega)
      omega

theorem tab_at (i : Int) (h : i.toNat < Lib.len8tab.size) (h0 : 0 ≤ i) : ((Lib.len8tab[i.toNat]'h).toNat : Int) = (Lib.bitLen i.toNat : Int) := by
  have h' := h
  rw [Lib.len8tab_size] at h'
  have e := Lib.len8_of i h0 (by omega)
  simp only [Lib.len8, ByteArray.getElem?_lt' _ _ h, Option.getD_some] at e
  exact e
theorem len_end (K : Int) (n : Nat) (i x : Int) (h : i.toNat < Lib.len8tab.size) (hK : K = (n : Int)) (hn : n ≤ 56) (hi0 : 0 ≤ i) (hx0 : 0 ≤ x) (hx1 : x ≤ 18446744073709551615) (e : i.toNat = x.toNat / 2 ^ n) (hle : n = 0 ∨ 2 ^ n ≤ x.toNat) :
    wrap64 (K + wrap64 ((Lib.len8tab[i.toNat]'h).toNat : Int)) = (Lib.bitLen x.toNat : Int) := by
  have h' := h
  rw [Lib.len8tab_size] at h'
  have l := Lib.bitLen_le8' i hi0 (by omega)
  have s : Lib.bitLen x.toNat = n + Lib.bitLen i.toNat := by
    rw [e]
    rcases hle with rfl | hle
    · rw [Nat.pow_zero, Nat.div_one, Nat.zero_add]
    · exact Lib.bitLen_shift n x.toNat hle (by omega)
  have t := tab_at i h hi0
  generalize Lib.bitLen i.toNat = q at *
  generalize Lib.bitLen x.toNat = r at *
  generalize ((Lib.len8tab[i.toNat]'h).toNat : Int) = u at *
  subst hK s t
  unfold wrap64
  omega

set_option maxHeartbeats 400000 in
set_option maxRecDepth 100000 in
theorem len64_int (x : Int) (w : World) (h0 : 0 ≤ x) (h1 : x ≤ 18446744073709551615) :
    Calls Tryz.prog 54 #[.int .u64 x] w fun e w' => e = .returned (.int .i64 (Lib.bitLen x.toNat)) ∧ w = w' := by
  have hz : (Lib.len8tab.size : Int) = 256 := by rw [Lib.len8tab_size]; rfl
  go_enter Tryz.func54, Tryz.ntmps54
  go_wp2
  · go_ret
    exact ⟨congrArg Ending.returned (congrArg (Value.int IntKind.i64) (len_end 56 56 _ x _ rfl (by decide) (by omega) h0 h1 (by simp only [Nat.reducePow]; omega) (.inr (by simp only [Nat.reducePow]; omega)))), rfl⟩
  · go_ret
    exact ⟨congrArg Ending.returned (congrArg (Value.int IntKind.i64) (len_end 48 48 _ x _ rfl (by decide) (by omega) h0 h1 (by simp only [Nat.reducePow]; omega) (.inr (by simp only [Nat.reducePow]; omega)))), rfl⟩
  · go_ret
    exact ⟨congrArg Ending.returned (congrArg (Value.int IntKind.i64) (len_end 40 40 _ x _ rfl (by decide) (by omega) h0 h1 (by simp only [Nat.reducePow]; omega) (.inr (by simp only [Nat.reducePow]; omega)))), rfl⟩
  · go_ret
    exact ⟨congrArg Ending.returned (congrArg (Value.int IntKind.i64) (len_end 32 32 _ x _ rfl (by decide) (by omega) h0 h1 (by simp only [Nat.reducePow]; omega) (.inr (by simp only [Nat.reducePow]; omega)))), rfl⟩
  · go_ret
    exact ⟨congrArg Ending.returned (congrArg (Value.int IntKind.i64) (len_end 24 24 _ x _ rfl (by decide) (by omega) h0 h1 (by simp only [Nat.reducePow]; omega) (.inr (by simp only [Nat.reducePow]; omega)))), rfl⟩
  · go_ret
    exact ⟨congrArg Ending.returned (congrArg (Value.int IntKind.i64) (len_end 16 16 _ x _ rfl (by decide) (by omega) h0 h1 (by simp only [Nat.reducePow]; omega) (.inr (by simp only [Nat.reducePow]; omega)))), rfl⟩
  · go_ret
    exact ⟨congrArg Ending.returned (congrArg (Value.int IntKind.i64) (len_end 8 8 _ x _ rfl (by decide) (by omega) h0 h1 (by simp only [Nat.reducePow]; omega) (.inr (by simp only [Nat.reducePow]; omega)))), rfl⟩
  · go_ret
    refine ⟨congrArg Ending.returned (congrArg (Value.int IntKind.i64) ?_), rfl⟩
    have e := len_end 0 0 x x (by rw [Lib.len8tab_size]; omega) rfl (by decide) h0 h0 h1 (by simp) (.inl rfl)
    rw [Int.zero_add] at e
    exact e

theorem len64 (x : Nat) (w : World) (hx : x < 18446744073709551616) :
    ∃ L : Nat, L ≤ 64 ∧ x < 2 ^ L ∧ Calls Tryz.prog 54 #[.int .u64 (x : Int)] w fun e w' => e = .returned (.int .i64 (L : Int)) ∧ w = w' := by
  refine ⟨Lib.bitLen x, Lib.bitLen_le x 64 (by decide) hx, lt_bitLen 64 x hx (by decide), ?_⟩
  have h := len64_int (x : Int) w (by omega) (by omega)
  rwa [show (x : Int).toNat = x by omega] at h
end Go.Proofs.YtjcockcilkiggaaGreat
/- package mark: times, Of, power and Join return what the plain arithmetic says; they write nothing. -/
namespace Go.Proofs.YtjcockcilkiggaaGreat
open Go.RowKit

theorem times_val (p q : Nat) (h1 : p < 288230376151711744) (h3 : q < 18446744073709551616) :
    (IntKind.u64.wrap (bits .or .u64 ((p : Int) * 8) ((q : Int) / 2305843009213693952) + bits .and .u64 (q : Int) 2305843009213693951)).tmod 2305843009213693951 = (((p * 8 + q / 2305843009213693952 + q % 2305843009213693952) % 2305843009213693951 : Nat) : Int) := by
  rw [M64.mask61 q h3, show (q : Int) / 2305843009213693952 = ((q / 2305843009213693952 : Nat) : Int) by omega, M64.or3 _ _ h1 (by omega), M64.addN, M64.wrapN _ (by omega)]
  rfl

set_option maxHeartbeats 400000 in
theorem times (a b r : Nat) (w : World) (ha : a < 2305843009213693951) (hb : b < 2305843009213693951) (hr : a * b % 2305843009213693951 = r) :
    Calls Tryz.prog 95 #[.int .u64 (a : Int), .int .u64 (b : Int)] w fun e w' => e = .returned (.int .u64 (r : Int)) ∧ w = w' := by
  have hm := Lib.hid (mul64 a b (by omega) (by omega) w)
  obtain ⟨h1, h2⟩ := Hash.times_eq a b ha hb
  have H2 := Lib.hid (h2.trans hr)
  clear h2 hr
  go_enter Tryz.func95, Tryz.ntmps95
  go_wp2_with fail
  refine hm.out.mono ?_
  rintro e w1 ⟨rfl, rfl⟩
  clear hm ha hb
  generalize a * b = x at *
  have h3 : x % 18446744073709551616 < 18446744073709551616 := Nat.mod_lt _ (by decide)
  generalize x / 18446744073709551616 = p at *
  generalize x % 18446744073709551616 = q at *
  go_wp2
  go_ret
  rw [times_val p q h1 h3, H2.out]
  exact ⟨rfl, rfl⟩

theorem times_base (a r : Nat) (w : World) (ha : a < 2305843009213693951) (hr : a * 1099511628211 % 2305843009213693951 = r) :
    Calls Tryz.prog 95 #[.int .u64 (a : Int), .int .u64 1099511628211] w fun e w' => e = .returned (.int .u64 (r : Int)) ∧ w' = w :=
  (times a 1099511628211 r w ha (by decide) hr).mono fun _ _ h => ⟨h.1, h.2.symm⟩

theorem add_val (m : Nat) (c : UInt8) (hm : m < 2305843009213693951) : (IntKind.u64.wrap (IntKind.u64.wrap ((m : Int) + IntKind.u64.wrap (c.toNat : Int)) + 1)).tmod 2305843009213693951 = (((m + c.toNat + 1) % 2305843009213693951 : Nat) : Int) := by
  have := c.toNat_lt
  simp only [IntKind.wrap_u64]
  rw [Int.tmod_eq_emod_of_nonneg (by omega)]
  omega

set_option maxRecDepth 100000 in
set_option maxHeartbeats 400000 in
theorem markOf (l : Bytes) (w : World) (hl : l.length ≤ maxLen) :
    Calls Tryz.prog 82 #[.string (S l)] w fun e w' => e = .returned (.int .u64 (Hash.of l : Int)) ∧ ∃ m, w' = w.drewN m := by
  unfold maxLen at hl
  go_enter Tryz.func82, Tryz.ntmps82
  go_wp2
  go_loopw [3, 4] (fun h i wr => ∃ k m : Nat, k ≤ l.length ∧ i = .int .i64 k ∧ h = .int .u64 (Hash.of (l.take k) : Nat) ∧ wr = w.drewN m) (fun _ i _ => l.length - (intOf i).toNat)
  case atStart => exact ⟨0, 0, Nat.zero_le _, rfl, rfl, rfl⟩
  case round =>
    obtain ⟨k, m, hk, rfl, rfl, hw⟩ := hrel
    have HW := Lib.hid hw
    clear hw
    by_cases hlt : k < l.length
    · have hi0 : (0 : Int) ≤ (k : Int) := by omega
      have hi1 : (k : Int) < (l.length : Int) := by omega
      have HS : Hid (Hash.of (l.take (k + 1)) = (Hash.of (l.take k) * 1099511628211 % 2305843009213693951 + l[k].toNat + 1) % 2305843009213693951) := by
        show Hash.of (l.take (k + 1)) = _
        rw [List.take_succ_eq_append_getElem hlt, Hash.of_snoc, Hash.step_eq]
      have hn : Hash.of (l.take k) < 2305843009213693951 := Hash.of_lt _
      generalize Hash.of (l.take k) = n at *
      have hr : n * 1099511628211 % 2305843009213693951 < 2305843009213693951 := Nat.mod_lt _ (by decide)
      have HR : Hid (n * 1099511628211 % 2305843009213693951 = n * 1099511628211 % 2305843009213693951) := rfl
      have ht := fun w => Lib.hid (times_base n _ w hn HR.out)
      clear HR
      generalize n * 1099511628211 % 2305843009213693951 = r at ht hr HS
      go_wp2
      go_quiet (first | (go_at_call 95; refine Calls.quiet_of_same ((ht _).out)))
      go_wp2
      go_roundw
      case rel => exact ⟨k + 1, m + nq, by omega, by go_num, by rw [HS.out, add_val r _ hr], by rw [HW.out, World.drewN_drewN]⟩
      case measure => simp [intOf]; omega
    · obtain rfl : k = l.length := by omega
      rw [List.take_length]
      go_wp2
      go_ret
      exact ⟨rfl, m, HW.out⟩

end Go.Proofs.YtjcockcilkiggaaGreat
/- The reference: Mul is the product modulo M, Power the base's power, Mark the hash by powers from the end on; they write nothing. -/
namespace Go.Proofs.YtjcockcilkiggaaGreat
open Go.RowKit

/-- What holds between two rounds of Mul. -/
def MulAt (L r k x y o : Nat) : Prop := k ≤ L ∧ x < 2305843009213693951 ∧ o < 2305843009213693951 ∧ y < 18446744073709551616 ∧ y < 2 ^ (L - k) ∧ (o + x * y) % 2305843009213693951 = r
theorem MulAt.odd {L r k x y o : Nat} (h : MulAt L r k x y o) (hk : k < L) (hy : y % 2 = 1) : MulAt L r (k + 1) (2 * x % 2305843009213693951) (y / 2) ((o + x) % 2305843009213693951) := by
  obtain ⟨h1, h2, h3, h4, h5, h6⟩ := h
  have e : L - k = (L - (k + 1)) + 1 := by omega
  rw [e, Nat.pow_succ] at h5
  refine ⟨by omega, Nat.mod_lt _ (by decide), Nat.mod_lt _ (by decide), by omega, by omega, ?_⟩
  rw [(Hash.bit_step o x y).1, show 2 * (y / 2) + 1 = y by omega]
  exact h6
theorem MulAt.even {L r k x y o : Nat} (h : MulAt L r k x y o) (hk : k < L) (hy : y % 2 = 0) : MulAt L r (k + 1) (2 * x % 2305843009213693951) (y / 2) o := by
  obtain ⟨h1, h2, h3, h4, h5, h6⟩ := h
  have e : L - k = (L - (k + 1)) + 1 := by omega
  rw [e, Nat.pow_succ] at h5
  refine ⟨by omega, Nat.mod_lt _ (by decide), h3, by omega, by omega, ?_⟩
  rw [(Hash.bit_step o x y).2, show 2 * (y / 2) = y by omega]
  exact h6
theorem MulAt.done {L r x y o : Nat} (h : MulAt L r L x y o) : o = r := by
  obtain ⟨h1, h2, h3, h4, h5, h6⟩ := h
  rw [Nat.sub_self] at h5
  obtain rfl : y = 0 := by omega
  rw [Nat.mul_zero, Nat.add_zero, Nat.mod_eq_of_lt h3] at h6
  exact h6

set_option maxRecDepth 100000 in
set_option maxHeartbeats 400000 in
theorem refMul (a b r : Nat) (w : World) (ha : a < 18446744073709551616) (hb : b < 18446744073709551616) (hr : a * b % 2305843009213693951 = r) :
    Calls Tryz.prog 26 #[.int .u64 (a : Int), .int .u64 (b : Int)] w fun e w' => e = .returned (.int .u64 (r : Int)) ∧ w = w' := by
  obtain ⟨L, hL, hLb, hC⟩ := len64 b w hb
  have HC := Lib.hid hC
  have H0 : Hid (MulAt L r 0 (a % 2305843009213693951) b 0) := by
    refine ⟨Nat.zero_le _, Nat.mod_lt _ (by decide), by decide, hb, hLb, ?_⟩
    rw [Nat.zero_add, Nat.mod_mul_mod, hr]
  clear hC hLb hr hb
  go_enter Tryz.func26, Tryz.ntmps26
  go_wp2_with fail
  refine HC.out.mono ?_
  rintro e w1 ⟨rfl, rfl⟩
  clear HC
  go_wp2
  go_loop [0, 1, 5, 10] (fun a b o i => ∃ k x y z : Nat, a = .int .u64 x ∧ b = .int .u64 y ∧ o = .int .u64 z ∧ i = .int .i64 k ∧ Hid (MulAt L r k x y z)) (fun _ _ _ i => L - (intOf i).toNat)
  case atStart => exact ⟨0, _, b, 0, by rfl, rfl, rfl, rfl, H0⟩
  case round =>
    obtain ⟨k, x, y, z, rfl, rfl, rfl, rfl, H⟩ := hrel
    by_cases hlt : k < L
    · obtain ⟨h1, h2, h3, h4, -, -⟩ := H.out
      by_cases hy : y % 2 = 1
      · go_wp2
        go_round
        case rel => exact ⟨k + 1, 2 * x % 2305843009213693951, y / 2, (z + x) % 2305843009213693951, by go_num, by go_num, by go_num, by go_num, H.out.odd hlt hy⟩
        case measure => simp [intOf]; omega
      · have hy0 : y % 2 = 0 := by omega
        have hd : ((y : Int) % 2 == 1) = false := by simp; omega
        clear hy
        go_wp2
        go_round
        case rel => exact ⟨k + 1, 2 * x % 2305843009213693951, y / 2, z, by go_num, by go_num, rfl, by go_num, H.out.even hlt hy0⟩
        case measure => simp [intOf]; omega
    · obtain ⟨h1, -, -, -, -, -⟩ := H.out
      obtain rfl : k = L := by omega
      have e := H.out.done
      subst e
      clear H
      go_wp2
      go_ret
      exact ⟨rfl, rfl⟩

theorem refMul_left (b r : Nat) (w : World) (hb : b < 18446744073709551616) (hr : b * 1099511628211 % 2305843009213693951 = r) :
    Calls Tryz.prog 26 #[.int .u64 1099511628211, .int .u64 (b : Int)] w fun e w' => e = .returned (.int .u64 (r : Int)) ∧ w = w' :=
  refMul 1099511628211 b r w (by decide) hb (by rw [Nat.mul_comm, hr])
theorem refMul_right (a r : Nat) (w : World) (ha : a < 18446744073709551616) (hr : a * 1099511628211 % 2305843009213693951 = r) :
    Calls Tryz.prog 26 #[.int .u64 (a : Int), .int .u64 1099511628211] w fun e w' => e = .returned (.int .u64 (r : Int)) ∧ w = w' :=
  refMul a 1099511628211 r w ha (by decide) hr
theorem refMul_c (a : Nat) (c : UInt8) (r : Nat) (w : World) (ha : a < 18446744073709551616) (hr : a * (c.toNat + 1) % 2305843009213693951 = r) :
    Calls Tryz.prog 26 #[.int .u64 (a : Int), .int .u64 ((c.toNat : Int) + 1)] w fun e w' => e = .returned (.int .u64 (r : Int)) ∧ w = w' :=
  refMul a (c.toNat + 1) r w ha (by have := c.toNat_lt; omega) hr
theorem pw_lt64 (n : Nat) : Hash.pw n < 18446744073709551616 := Nat.lt_trans (Hash.pw_lt n) (by decide)


set_option maxRecDepth 100000 in
set_option maxHeartbeats 400000 in
theorem refMark (l : Bytes) (w : World) (hl : l.length ≤ maxLen) :
    Calls Tryz.prog 9 #[.string (S l)] w fun e w' => e = .returned (.int .u64 (Hash.of l : Int)) ∧ w = w' := by
  unfold maxLen at hl
  go_enter Tryz.func9, Tryz.ntmps9
  go_wp2
  go_loop [3, 4, 5] (fun s p i => ∃ k : Nat, k ≤ l.length ∧ i = .int .i64 ((k : Int) - 1) ∧ s = .int .u64 (Hash.sum (l.drop k) : Nat) ∧ p = .int .u64 (Hash.pw (l.length - k) : Nat)) (fun _ _ i => (intOf i + 1).toNat)
  case atStart => exact ⟨l.length, Nat.le_refl _, by go_num, by rw [List.drop_length]; rfl, by rw [Nat.sub_self]; rfl⟩
  case round =>
    obtain ⟨k, hk, rfl, rfl, rfl⟩ := hrel
    by_cases hlt : 0 < k
    · obtain ⟨j, rfl⟩ : ∃ j, k = j + 1 := ⟨k - 1, by omega⟩
      rw [show ((j + 1 : Nat) : Int) - 1 = (j : Int) by omega]
      have hi0 : (0 : Int) ≤ (j : Int) := by omega
      have hi1 : (j : Int) < (l.length : Int) := by omega
      have hj : j < l.length := by omega
      have hn : Hash.sum (l.drop (j + 1)) < 2305843009213693951 := Hash.sum_lt _
      have HS : Hid (Hash.sum (l.drop j) = (Hash.sum (l.drop (j + 1)) + Hash.pw (l.length - (j + 1)) * (l[j].toNat + 1) % 2305843009213693951) % 2305843009213693951) := by
        show Hash.sum (l.drop j) = _
        rw [Hash.drop_sum l j hj, Nat.add_mod_mod]
      have hp := pw_lt64 (l.length - (j + 1))
      have hc := l[j].toNat_lt
      have HQ : Hid (Hash.pw (l.length - (j + 1)) * 1099511628211 % 2305843009213693951 = Hash.pw (l.length - j)) := by
        show Hash.pw (l.length - (j + 1)) * 1099511628211 % 2305843009213693951 = Hash.pw (l.length - j)
        rw [show l.length - j = (l.length - (j + 1)) + 1 by omega]; rfl
      have ht1 := fun w => Lib.hid (refMul_c (Hash.pw (l.length - (j + 1))) l[j] _ w hp rfl)
      have hr : Hash.pw (l.length - (j + 1)) * (l[j].toNat + 1) % 2305843009213693951 < 2305843009213693951 := Nat.mod_lt _ (by decide)
      have ht2 := fun w => Lib.hid (refMul_right (Hash.pw (l.length - (j + 1))) _ w hp HQ.out)
      clear HQ
      generalize Hash.pw (l.length - (j + 1)) * (l[j].toNat + 1) % 2305843009213693951 = t at *
      generalize Hash.pw (l.length - (j + 1)) = x at *
      generalize Hash.sum (l.drop (j + 1)) = s at *
      go_wp2_with fail
      refine (ht1 _).out.mono ?_
      rintro e w1 ⟨rfl, rfl⟩
      go_wp2_with fail
      refine (ht2 _).out.mono ?_
      rintro e w1 ⟨rfl, rfl⟩
      go_wp2
      go_round
      case rel => exact ⟨j, by omega, by go_num, by rw [HS.out]; rfl, rfl⟩
      case measure => simp [intOf]
    · obtain rfl : k = 0 := by omega
      have HO := Lib.hid (Hash.of_eq l)
      have h1 : Hash.sum l < 2305843009213693951 := Hash.sum_lt _
      have h2 : Hash.pw l.length < 2305843009213693951 := Hash.pw_lt _
      rw [List.drop_zero, Nat.sub_zero]
      generalize Hash.sum l = s at *
      generalize Hash.pw l.length = p at *
      go_wp2
      go_ret
      refine ⟨congrArg Ending.returned ?_, rfl⟩
      rw [HO.out]
      go_num
end Go.Proofs.YtjcockcilkiggaaGreat
