/- package mark: times, Of, power and Join return what the plain arithmetic says; they write nothing. -/
import Derived.Test.YteclnibbgdbjfaaBits
import Derived.Test.YteclnibbgdbjfaaHash
namespace Go.Proofs.Yteclnibbgdbjfaa
open Go.RowKit

theorem times_val (p q : Nat) (h1 : p < 288230376151711744) (h3 : q < 18446744073709551616) :
    (IntKind.u64.wrap (bits .or .u64 ((p : Int) * 8) ((q : Int) / 2305843009213693952) + bits .and .u64 (q : Int) 2305843009213693951)).tmod 2305843009213693951 = (((p * 8 + q / 2305843009213693952 + q % 2305843009213693952) % 2305843009213693951 : Nat) : Int) := by
  rw [M64.mask61 q h3, show (q : Int) / 2305843009213693952 = ((q / 2305843009213693952 : Nat) : Int) by omega, M64.or3 _ _ h1 (by omega), M64.addN, M64.wrapN _ (by omega)]
  rfl

set_option maxHeartbeats 400000 in
theorem times (a b r : Nat) (w : World) (ha : a < 2305843009213693951) (hb : b < 2305843009213693951) (hr : a * b % 2305843009213693951 = r) :
    Calls Try.prog 36 #[.int .u64 (a : Int), .int .u64 (b : Int)] w fun e w' => e = .returned (.int .u64 (r : Int)) ∧ w = w' := by
  have hm := Lib.hid (mul64 a b (by omega) (by omega) w)
  obtain ⟨h1, h2⟩ := Hash.times_eq a b ha hb
  have H2 := Lib.hid (h2.trans hr)
  clear h2 hr
  go_enter Try.func36, Try.ntmps36
  go_wp2_with fail
  refine hm.out.mono ?_
  rintro e w1 ⟨rfl, rfl⟩
  clear hm ha hb
  generalize a * b = x at *
  have h3 : x % 18446744073709551616 < 18446744073709551616 := Nat.mod_lt _ (by decide)
  generalize x / 18446744073709551616 = p at *
  generalize x % 18446744073709551616 = q at *
  go_wp2
  go_ret
  rw [times_val p q h1 h3, H2.out]
  exact ⟨rfl, rfl⟩

theorem times_base (a r : Nat) (w : World) (ha : a < 2305843009213693951) (hr : a * 1099511628211 % 2305843009213693951 = r) :
    Calls Try.prog 36 #[.int .u64 (a : Int), .int .u64 1099511628211] w fun e w' => e = .returned (.int .u64 (r : Int)) ∧ w' = w :=
  (times a 1099511628211 r w ha (by decide) hr).mono fun _ _ h => ⟨h.1, h.2.symm⟩

theorem add_val (m : Nat) (c : UInt8) (hm : m < 2305843009213693951) : (IntKind.u64.wrap (IntKind.u64.wrap ((m : Int) + IntKind.u64.wrap (c.toNat : Int)) + 1)).tmod 2305843009213693951 = (((m + c.toNat + 1) % 2305843009213693951 : Nat) : Int) := by
  have := c.toNat_lt
  simp only [IntKind.wrap_u64]
  rw [Int.tmod_eq_emod_of_nonneg (by omega)]
  omega

set_option maxRecDepth 100000 in
set_option maxHeartbeats 400000 in
theorem markOf (l : Bytes) (w : World) (hl : l.length ≤ maxLen) :
    Calls Try.prog 20 #[.string (S l)] w fun e w' => e = .returned (.int .u64 (Hash.of l : Int)) ∧ ∃ m, w' = w.drewN m := by
  unfold maxLen at hl
  go_enter Try.func20, Try.ntmps20
  go_wp2
  go_loopw [3, 4] (fun h i wr => ∃ k m : Nat, k ≤ l.length ∧ i = .int .i64 k ∧ h = .int .u64 (Hash.of (l.take k) : Nat) ∧ wr = w.drewN m) (fun _ i _ => l.length - (intOf i).toNat)
  case atStart => exact ⟨0, 0, Nat.zero_le _, rfl, rfl, rfl⟩
  case round =>
    obtain ⟨k, m, hk, rfl, rfl, hw⟩ := hrel
    have HW := Lib.hid hw
    clear hw
    by_cases hlt : k < l.length
    · have hi0 : (0 : Int) ≤ (k : Int) := by omega
      have hi1 : (k : Int) < (l.length : Int) := by omega
      have HS : Hid (Hash.of (l.take (k + 1)) = (Hash.of (l.take k) * 1099511628211 % 2305843009213693951 + l[k].toNat + 1) % 2305843009213693951) := by
        show Hash.of (l.take (k + 1)) = _
        rw [List.take_succ_eq_append_getElem hlt, Hash.of_snoc, Hash.step_eq]
      have hn : Hash.of (l.take k) < 2305843009213693951 := Hash.of_lt _
      generalize Hash.of (l.take k) = n at *
      have hr : n * 1099511628211 % 2305843009213693951 < 2305843009213693951 := Nat.mod_lt _ (by decide)
      have HR : Hid (n * 1099511628211 % 2305843009213693951 = n * 1099511628211 % 2305843009213693951) := rfl
      have ht := fun w => Lib.hid (times_base n _ w hn HR.out)
      clear HR
      generalize n * 1099511628211 % 2305843009213693951 = r at ht hr HS
      go_wp2
      go_quiet (first | (go_at_call 36; refine Calls.quiet_of_same ((ht _).out)))
      go_wp2
      go_roundw
      case rel => exact ⟨k + 1, m + nq, by omega, by go_num, by rw [HS.out, add_val r _ hr], by rw [HW.out, World.drewN_drewN]⟩
      case measure => simp [intOf]; omega
    · obtain rfl : k = l.length := by omega
      rw [List.take_length]
      go_wp2
      go_ret
      exact ⟨rfl, m, HW.out⟩

end Go.Proofs.Yteclnibbgdbjfaa
