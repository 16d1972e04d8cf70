/- wire.First returns the first encoded string of a string of at most 600 bytes, and what follows it; it writes nothing. -/
import Derived.Test.YtbfdbibknhoigaaKit
import Derived.Test.YtbfdbibknhoigaaWire
namespace Go.Proofs.Ytbfdbibknhoigaa
open Go.RowKit

theorem byte_lt (b : UInt8) : b.toNat < 256 := b.toNat_lt
theorem wrap_byte (b : UInt8) : wrap64 (b.toNat : Int) = b.toNat := by have := byte_lt b; unfold wrap64; omega
theorem or_bytes (x y : UInt8) : bits .or .i64 (wrap64 (wrap64 (x.toNat : Int) * 256)) (wrap64 (y.toNat : Int)) = ((256 * x.toNat + y.toNat : Nat) : Int) := by
  have hx := byte_lt x
  have hy := byte_lt y
  rw [wrap_byte, wrap_byte]
  have e : wrap64 ((x.toNat : Int) * 256) = ((x.toNat <<< 8 : Nat) : Int) := by rw [Nat.shiftLeft_eq]; unfold wrap64; omega
  rw [e]
  have hor : x.toNat <<< 8 ||| y.toNat = 256 * x.toNat + y.toNat := by
    rw [← Nat.shiftLeft_add_eq_or_of_lt (by omega : y.toNat < 2 ^ 8), Nat.shiftLeft_eq]; omega
  have hlt : x.toNat <<< 8 ||| y.toNat < 2 ^ 63 := by rw [hor]; omega
  show IntKind.i64.wrap ((BitVec.ofInt 64 ((x.toNat <<< 8 : Nat) : Int) ||| BitVec.ofInt 64 (y.toNat : Int)).toNat : Int) = _
  rw [BitVec.toNat_or, BitVec.ofInt_natCast, BitVec.ofInt_natCast, BitVec.toNat_ofNat, BitVec.toNat_ofNat, Nat.mod_eq_of_lt (by rw [Nat.shiftLeft_eq]; omega), Nat.mod_eq_of_lt (by omega), hor, IntKind.wrap_i64]
  omega

open Wire (head2 head2_eq head2_le firstB)

set_option maxHeartbeats 400000 in
theorem first_yes (l : Bytes) (w : World) (hl : l.length ≤ 600) (hok : firstB l = true) :
    Calls Try.prog 10 #[.string (S l)] w fun e w' => e = .returned (.tuple #[.string (S ((l.drop 2).take (head2 l))), .string (S (l.drop (2 + head2 l))), .int .i64 0]) ∧ ∃ m, w' = w.drewN m := by
  obtain ⟨h2, hle⟩ : 2 ≤ l.length ∧ head2 l + 2 ≤ l.length := by simpa [firstB] using hok
  have hv := or_bytes l[0] l[1]
  rw [head2_eq l h2] at hv
  generalize head2 l = n at *
  clear hok
  have hi0 : (0 : Int) < (l.length : Int) := by omega
  have hi1 : (1 : Int) < (l.length : Int) := by omega
  have hn0 : 0 < l.length := by omega
  have hn1 : 1 < l.length := by omega
  have hk : (n : Int) ≤ ((l.length - 2 : Nat) : Int) := by omega
  have hk' : n ≤ l.length - 2 := by omega
  go_enter Try.func10, Try.ntmps10
  go_wp2
  go_quiet (fail)
  go_wp2
  go_quiet (fail)
  go_wp2
  go_ret3
  exact ⟨tup3 (strEq (by simp)) (strEq (List.take_of_length_le (by simp; omega))) rfl, _, World.drewN_drewN _ _ _⟩

set_option maxHeartbeats 400000 in
theorem first_no (l : Bytes) (w : World) (hl : l.length ≤ 600) (hok : firstB l = false) :
    Calls Try.prog 10 #[.string (S l)] w fun e w' => e = .returned (.tuple #[.string (S []), .string (S []), .int .i64 3]) ∧ ∃ m, w' = w.drewN m := by
  by_cases h2 : 2 ≤ l.length
  · have hle : l.length < head2 l + 2 := by
      rw [firstB, Bool.and_eq_false_iff] at hok
      rcases hok with h | h
      · simp at h; omega
      · simpa using h
    have hv := or_bytes l[0] l[1]
    rw [head2_eq l h2] at hv
    generalize head2 l = n at *
    clear hok
    have hi0 : (0 : Int) < (l.length : Int) := by omega
    have hi1 : (1 : Int) < (l.length : Int) := by omega
    have hn0 : 0 < l.length := by omega
    have hn1 : 1 < l.length := by omega
    have hk : ((l.length - 2 : Nat) : Int) < (n : Int) := by omega
    have hk' : l.length - 2 < n := by omega
    go_enter Try.func10, Try.ntmps10
    go_wp2
    go_quiet (fail)
    go_wp2
    go_ret3
    exact ⟨rfl, _, rfl⟩
  · clear hok
    go_enter Try.func10, Try.ntmps10
    go_wp2
    go_ret3
    exact ⟨rfl, 0, rfl⟩

set_option maxHeartbeats 400000 in
theorem first_large (l : Bytes) (w : World) (hl : 600 < l.length) :
    Calls Try.prog 10 #[.string (S l)] w fun e w' => e = .returned (.tuple #[.string (S []), .string (S []), .int .i64 2]) ∧ ∃ m, w' = w.drewN m := by
  go_enter Try.func10, Try.ntmps10
  go_wp2
  go_ret3
  exact ⟨rfl, 0, rfl⟩

theorem ref_head (x y : UInt8) : wrap64 (256 * wrap64 (x.toNat : Int)) + wrap64 (y.toNat : Int) = ((256 * x.toNat + y.toNat : Nat) : Int) := by
  have hx := byte_lt x
  have hy := byte_lt y
  rw [wrap_byte, wrap_byte]
  unfold wrap64
  omega

set_option maxHeartbeats 400000 in
theorem partFirst_yes (l : Bytes) (w : World) (hl : l.length ≤ 600) (hok : firstB l = true) :
    Calls Try.prog 18 #[.string (S l)] w fun e w' => e = .returned (.tuple #[.string (S ((l.drop 2).take (head2 l))), .string (S (l.drop (2 + head2 l))), .bool true]) ∧ ∃ m, w' = w.drewN m := by
  obtain ⟨h2, hle⟩ : 2 ≤ l.length ∧ head2 l + 2 ≤ l.length := by simpa [firstB] using hok
  have hv := ref_head l[0] l[1]
  rw [head2_eq l h2] at hv
  generalize head2 l = n at *
  clear hok
  have hi0 : (0 : Int) < (l.length : Int) := by omega
  have hi1 : (1 : Int) < (l.length : Int) := by omega
  have hn0 : 0 < l.length := by omega
  have hn1 : 1 < l.length := by omega
  go_enter Try.func18, Try.ntmps18
  go_wp2
  go_quiet (fail)
  go_wp2
  go_quiet (fail)
  go_wp2
  go_ret3
  exact ⟨tup3 (strEq (by rw [Nat.add_sub_cancel_left])) rfl rfl, _, World.drewN_drewN _ _ _⟩

set_option maxHeartbeats 400000 in
theorem partFirst_no (l : Bytes) (w : World) (hl : l.length ≤ 600) (hok : firstB l = false) :
    Calls Try.prog 18 #[.string (S l)] w fun e w' => e = .returned (.tuple #[.string (S []), .string (S []), .bool false]) ∧ ∃ m, w' = w.drewN m := by
  by_cases h2 : 2 ≤ l.length
  · have hle : l.length < head2 l + 2 := by
      rw [firstB, Bool.and_eq_false_iff] at hok
      rcases hok with h | h
      · simp at h; omega
      · simpa using h
    have hv := ref_head l[0] l[1]
    rw [head2_eq l h2] at hv
    have hbig := head2_le l
    generalize head2 l = n at *
    clear hok
    have hi0 : (0 : Int) < (l.length : Int) := by omega
    have hi1 : (1 : Int) < (l.length : Int) := by omega
    have hn0 : 0 < l.length := by omega
    have hn1 : 1 < l.length := by omega
    go_enter Try.func18, Try.ntmps18
    go_wp2
    go_quiet (fail)
    go_wp2
    go_ret3
    exact ⟨rfl, _, rfl⟩
  · clear hok
    go_enter Try.func18, Try.ntmps18
    go_wp2
    go_ret3
    exact ⟨rfl, 0, rfl⟩
end Go.Proofs.Ytbfdbibknhoigaa
