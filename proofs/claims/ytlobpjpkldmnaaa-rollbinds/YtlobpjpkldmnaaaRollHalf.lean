/- package roll: split, one, join; the reference's half. -/
import Derived.Test.YtlobpjpkldmnaaaRollPlain
import Derived.Test.YtlobpjpkldmnaaaRefMark
namespace Go.Proofs.Ytlobpjpkldmnaaa
set_option maxRecDepth 100000
open Go.RowKit

theorem bitLen_six : ∀ k : Fin 64, Lib.bitLen k.val = (if k.val = 0 then 0 else if k.val < 2 then 1 else if k.val < 4 then 2 else if k.val < 8 then 3 else if k.val < 16 then 4 else if k.val < 32 then 5 else 6) := by decide +kernel
/-- What Len says, and what comes of it. -/
theorem len_six (n : Nat) (h2 : 2 ≤ n) (h : n ≤ 40) : ∃ L : Nat, Lib.bitLen (n - 1) = L ∧ ((L = 1 ∧ hlf n = 1) ∨ (L = 2 ∧ hlf n = 2) ∨ (L = 3 ∧ hlf n = 4) ∨ (L = 4 ∧ hlf n = 8) ∨ (L = 5 ∧ hlf n = 16) ∨ (L = 6 ∧ hlf n = 32)) := by
  refine ⟨_, rfl, ?_⟩
  have e := bitLen_six ⟨n - 1, by omega⟩
  simp only at e
  rw [e]
  have := hlf_six n
  rw [if_neg (by omega)]
  (repeat' split) <;> omega

set_option maxHeartbeats 400000 in
theorem bitsLen (x : Nat) (L : Nat) (hL : Lib.bitLen x = L) (w : World) (hx : x < 18446744073709551616) :
    Calls Try.prog 48 #[.int .u64 (x : Int)] w fun e w' => e = .returned (.int .i64 (L : Int)) ∧ w = w' := by
  have h := fun w => Lib.hid (len64_int (x : Int) w (by omega) (by omega))
  rw [show (x : Int).toNat = x by omega, hL] at h
  clear hL
  go_enter Try.func48, Try.ntmps48
  go_wp2_with fail
  refine (h _).out.mono ?_
  rintro e w1 ⟨rfl, rfl⟩
  go_wp2
  go_ret
  exact ⟨rfl, rfl⟩

set_option maxHeartbeats 400000 in
theorem rollSplit (n k : Nat) (w : World) (h2 : 2 ≤ n) (h : n ≤ 40) (hk : hlf n = k) :
    Calls Try.prog 40 #[.int .i64 (n : Int)] w fun e w' => e = .returned (.int .i64 (k : Int)) ∧ w = w' := by
  obtain ⟨L, hL, h6⟩ := len_six n h2 h
  have hB := fun w => Lib.hid (bitsLen (n - 1) L hL w (by omega))
  obtain ⟨m, rfl⟩ : ∃ m, n = m + 1 := ⟨n - 1, by omega⟩
  rw [Nat.add_sub_cancel] at hB
  rw [hk] at h6
  clear hk hL
  go_enter Try.func40, Try.ntmps40
  go_wp2_with fail
  refine (hB _).out.mono ?_
  rintro e w1 ⟨rfl, rfl⟩
  rcases h6 with ⟨rfl, rfl⟩ | ⟨rfl, rfl⟩ | ⟨rfl, rfl⟩ | ⟨rfl, rfl⟩ | ⟨rfl, rfl⟩ | ⟨rfl, rfl⟩
  all_goals go_wp2
  all_goals go_ret
  all_goals exact ⟨rfl, rfl⟩

set_option maxHeartbeats 400000 in
theorem rollOne (s : Bytes) (r : Nat) (w : World) (hs : s.length < maxLen) (hr : Hash.of (4 :: s) = r) :
    Calls Try.prog 29 #[.string (S s)] w fun e w' => e = .returned (.int .u64 (r : Int)) ∧ ∃ m, w' = w.drewN m := by
  have hO := fun w => Lib.hid (markOf (4 :: s) w (by rw [List.length_cons]; omega))
  rw [hr] at hO
  have e4 : (⟨#[4]⟩ : ByteArray) = S [4] := rfl
  have hh : (4 :: s) = [4] ++ s := rfl
  rw [hh] at hO
  clear hr hh
  unfold maxLen at hs
  go_enter Try.func29, Try.ntmps29
  go_wp2_with fail
  refine (hO _).out.mono ?_
  rintro e w1 ⟨rfl, m, rfl⟩
  go_wp2
  go_ret
  exact ⟨rfl, m, rfl⟩

set_option maxHeartbeats 400000 in
theorem rollJoin (a b r : Nat) (w : World) (ha : a < 18446744073709551616) (hb : b < 18446744073709551616) (hr : Hash.of (said 5 a b) = r) :
    Calls Try.prog 41 #[.int .u64 (a : Int), .int .u64 (b : Int)] w fun e w' => e = .returned (.int .u64 (r : Int)) ∧ Below w.heap.size w w' := by
  have hT := fun w => Lib.hid (markTwo 5 a b w ha hb)
  rw [hr] at hT
  have e5 : ((5 : UInt8).toNat : Int) = 5 := rfl
  rw [e5] at hT
  clear hr ha hb e5
  go_enter Try.func41, Try.ntmps41
  go_wp2_with fail
  refine (hT _).out.mono ?_
  rintro e w1 ⟨rfl, hb1⟩
  go_wp2
  go_ret
  exact ⟨rfl, hb1⟩

/-- Behind some rounds of half. -/
def HalfAt (n k : Nat) : Prop := k ≤ hlf n ∧ (k = 1 ∨ k = 2 ∨ k = 4 ∨ k = 8 ∨ k = 16 ∨ k = 32)
theorem HalfAt.next {n k : Nat} (h : HalfAt n k) (hn : n ≤ 64) (h2 : k + k < n) : HalfAt n (k + k) := by
  obtain ⟨h1, h3⟩ := h
  have := hlf_six n
  refine ⟨?_, ?_⟩ <;> omega
theorem HalfAt.done {n k : Nat} (h : HalfAt n k) (hn : n ≤ 64) (h2 : ¬ k + k < n) : k = hlf n := by
  obtain ⟨h1, h3⟩ := h
  have := hlf_six n
  omega
set_option maxHeartbeats 400000 in
theorem refHalf (n k : Nat) (w : World) (h : n ≤ 40) (hk : hlf n = k) :
    Calls Try.prog 31 #[.int .i64 (n : Int)] w fun e w' => e = .returned (.int .i64 (k : Int)) ∧ w = w' := by
  have H0 : Hid (HalfAt n 1) := ⟨hlf_pos n, .inl rfl⟩
  have HK := Lib.hid hk
  clear hk
  go_enter Try.func31, Try.ntmps31
  go_wp2
  go_loop [3] (fun p => ∃ j : Nat, j ≤ 32 ∧ p = .int .i64 j ∧ Hid (HalfAt n j)) (fun p => 64 - (intOf p).toNat)
  case atStart => exact ⟨1, by omega, rfl, H0⟩
  case round =>
    obtain ⟨j, hj, rfl, H⟩ := hrel
    have hj1 : 1 ≤ j := by have := H.out.2; omega
    by_cases hlt : j + j < n
    · have H' := Lib.hid (H.out.next (by omega) hlt)
      have hj' : j + j ≤ 32 := by have := H'.out.2; omega
      have c1 : (j : Int) + (j : Int) < (n : Int) := by omega
      go_wp2
      go_round
      case rel => exact ⟨j + j, hj', by go_num, H'⟩
      case measure => simp [intOf]; omega
    · have HF := Lib.hid (H.out.done (by omega) hlt)
      have c1 : ¬ (j : Int) + (j : Int) < (n : Int) := by omega
      go_wp2
      go_ret
      exact ⟨by rw [HF.out, HK.out]; rfl, rfl⟩
end Go.Proofs.Ytlobpjpkldmnaaa
