/- package path: Bit returns a path's bit or its error; Common returns how long two strings are alike. They write nothing. -/
import Derived.Test.YtllnknhgkfmpnaaPathOf
namespace Go.Proofs.Ytllnknhgkfmpnaa
open Go.RowKit

set_option maxHeartbeats 400000 in
theorem pathBit_form (p : Bytes) (k : Int) (w : World) (hl : p.length ≤ maxLen) (h : Bin.path p = false) :
    Calls Try.prog 7 #[.string (S p), .int .i64 k] w fun e w' => e = .returned (.tuple #[.int .i64 0, .int .i64 3]) ∧ w = w' := by
  have h1 := fun w => Lib.hid (isPath p w hl false h)
  clear h hl
  go_enter Try.func7, Try.ntmps7
  go_wp2_with fail
  refine (h1 _).out.mono ?_
  rintro e w1 ⟨rfl, rfl⟩
  go_wp2
  go_ret2
  exact ⟨rfl, rfl⟩
set_option maxHeartbeats 400000 in
theorem pathBit_range (p : Bytes) (k : Int) (w : World) (hl : p.length ≤ maxLen) (h : Bin.path p = true) (hk : k < 0 ∨ 15 < k) :
    Calls Try.prog 7 #[.string (S p), .int .i64 k] w fun e w' => e = .returned (.tuple #[.int .i64 0, .int .i64 4]) ∧ w = w' := by
  have h1 := fun w => Lib.hid (isPath p w hl true h)
  clear h hl
  by_cases h0 : k < 0
  · have c1 : decide (k < 0) = true := decide_eq_true h0
    clear h0 hk
    go_enter Try.func7, Try.ntmps7
    go_wp2_with fail
    refine (h1 _).out.mono ?_
    rintro e w1 ⟨rfl, rfl⟩
    go_wp2
    go_ret2
    exact ⟨rfl, rfl⟩
  · have c1 : decide (k < 0) = false := decide_eq_false h0
    have c2 : decide ((16 : Int) ≤ k) = true := decide_eq_true (by omega)
    clear h0 hk
    go_enter Try.func7, Try.ntmps7
    go_wp2_with fail
    refine (h1 _).out.mono ?_
    rintro e w1 ⟨rfl, rfl⟩
    go_wp2
    go_ret2
    exact ⟨rfl, rfl⟩
theorem path_len {p : Bytes} (h : Bin.path p = true) : p.length = 16 := by
  simp only [Bin.path, Bool.and_eq_true, beq_iff_eq] at h
  exact h.1
theorem path_at {p : Bytes} (h : Bin.path p = true) (k : Nat) (hk : k < p.length) : p[k].toNat = 48 ∨ p[k].toNat = 49 := by
  simp only [Bin.path, Bool.and_eq_true] at h
  have := List.all_eq_true.1 h.2 _ (List.getElem_mem hk)
  simpa [Bin.bitByte] using this
set_option maxHeartbeats 400000 in
theorem pathBit_yes (p : Bytes) (k : Nat) (w : World) (h : Bin.path p = true) (hk : k < p.length) :
    Calls Try.prog 7 #[.string (S p), .int .i64 (k : Int)] w fun e w' => e = .returned (.tuple #[.int .i64 ((p[k].toNat : Int) - 48), .int .i64 0]) ∧ w = w' := by
  have hp := path_len h
  have h1 := fun w => Lib.hid (isPath p w (by unfold maxLen; omega) true h)
  have hv : (48 : Int) ≤ (p[k].toNat : Int) ∧ (p[k].toNat : Int) ≤ 49 := by have := path_at h k hk; omega
  obtain ⟨hv1, hv2⟩ := hv
  have c1 : decide ((k : Int) < 0) = false := decide_eq_false (by omega)
  have c2 : decide ((16 : Int) ≤ (k : Int)) = false := decide_eq_false (by omega)
  have hi0 : (0 : Int) ≤ (k : Int) := by omega
  have hi1 : (k : Int) < (p.length : Int) := by omega
  clear h hp
  go_enter Try.func7, Try.ntmps7
  go_wp2_with fail
  refine (h1 _).out.mono ?_
  rintro e w1 ⟨rfl, rfl⟩
  go_wp2
  go_ret2
  exact ⟨tup2 (by go_num) rfl, rfl⟩

/-- How long two strings are alike. -/
def common : Bytes → Bytes → Nat
  | a :: p, b :: q => if a = b then common p q + 1 else 0
  | _, _ => 0
theorem common_le (p q : Bytes) : common p q ≤ p.length ∧ common p q ≤ q.length := by
  induction p generalizing q with
  | nil => simp [common]
  | cons a p ih =>
    cases q with
    | nil => simp [common]
    | cons b q =>
      have := ih q
      simp only [common, List.length_cons]
      split <;> omega
theorem common_take (p q : Bytes) (k : Nat) (h : p.take k = q.take k) (h1 : k ≤ p.length) (h2 : k ≤ q.length) : common p q = k + common (p.drop k) (q.drop k) := by
  induction k generalizing p q with
  | zero => simp
  | succ k ih =>
    cases p with
    | nil => simp at h1
    | cons a p =>
      cases q with
      | nil => simp at h2
      | cons b q =>
        simp only [List.take_succ_cons, List.cons.injEq] at h
        simp only [List.length_cons] at h1 h2
        have := ih p q h.2 (by omega) (by omega)
        simp only [common, h.1, if_true, List.drop_succ_cons]
        omega
theorem common_stop (p q : Bytes) (k : Nat) (h : p.take k = q.take k) (h1 : k ≤ p.length) (h2 : k ≤ q.length)
    (hs : k = p.length ∨ k = q.length ∨ ∃ (a : k < p.length) (b : k < q.length), p[k] ≠ q[k]) : common p q = k := by
  rw [common_take p q k h h1 h2]
  rcases hs with rfl | rfl | ⟨a, b, hn⟩
  · rw [List.drop_length]; simp [common]
  · rw [List.drop_length]
    cases p.drop q.length <;> simp [common]
  · rw [List.drop_eq_getElem_cons a, List.drop_eq_getElem_cons b]
    simp [common, hn]

set_option maxRecDepth 100000 in
set_option maxHeartbeats 400000 in
theorem pathCommon (p q : Bytes) (w : World) (hp : p.length ≤ maxLen) (n : Nat) (hn : common p q = n) :
    Calls Try.prog 12 #[.string (S p), .string (S q)] w fun e w' => e = .returned (.int .i64 (n : Int)) ∧ ∃ m, w' = w.drewN m := by
  unfold maxLen at hp
  have HN := Lib.hid hn
  clear hn
  go_enter Try.func12, Try.ntmps12
  go_wp2
  go_loopw [5] (fun i wr => ∃ k m : Nat, k ≤ p.length ∧ k ≤ q.length ∧ i = .int .i64 k ∧ wr = w.drewN m ∧ Hid (p.take k = q.take k)) (fun i _ => p.length - (intOf i).toNat)
  case atStart => exact ⟨0, 0, Nat.zero_le _, Nat.zero_le _, rfl, rfl, rfl⟩
  case round =>
    obtain ⟨k, m, hk, hk', rfl, rfl, hpre⟩ := hrel
    by_cases h1 : k < p.length
    · have c1 : decide ((k : Int) < (p.length : Int)) = true := decide_eq_true (by omega)
      have hi0 : (0 : Int) ≤ (k : Int) := by omega
      have hi1 : (k : Int) < (p.length : Int) := by omega
      by_cases h2 : k < q.length
      · have c2 : decide ((k : Int) < (q.length : Int)) = true := decide_eq_true (by omega)
        have hi2 : (k : Int) < (q.length : Int) := by omega
        by_cases he : p[k] = q[k]
        · have c3 : ((p[k].toNat : Int) == (q[k].toNat : Int)) = true := by simp [he]
          have HS : Hid (p.take (k + 1) = q.take (k + 1)) := by
            show _ = _
            rw [List.take_succ_eq_append_getElem h1, List.take_succ_eq_append_getElem h2, hpre.out, he]
          clear he
          go_wp2
          go_quiet (fail)
          go_wp2
          go_roundw
          case rel => exact ⟨k + 1, _, by omega, by omega, by go_num, rfl, HS⟩
          case measure => simp [intOf]; omega
        · have c3 : ((p[k].toNat : Int) == (q[k].toNat : Int)) = false := by
            rw [beq_eq_false_iff_ne]
            intro e
            exact he (UInt8.toNat_inj.1 (by omega))
          have HF : Hid (n = k) := by
            show n = k
            rw [← HN.out]
            exact common_stop p q k hpre.out hk hk' (.inr (.inr ⟨h1, h2, he⟩))
          clear he
          go_wp2
          go_quiet (fail)
          go_wp2
          go_ret
          exact ⟨by rw [HF.out]; rfl, _, World.drewN_drewN _ _ _⟩
      · have c2 : decide ((k : Int) < (q.length : Int)) = false := decide_eq_false (by omega)
        have HF : Hid (n = k) := by
          show n = k
          rw [← HN.out]
          exact common_stop p q k hpre.out hk hk' (.inr (.inl (by omega)))
        go_wp2
        go_quiet (fail)
        go_wp2
        go_ret
        exact ⟨by rw [HF.out]; rfl, _, World.drewN_drewN _ _ _⟩
    · have c1 : decide ((k : Int) < (p.length : Int)) = false := decide_eq_false (by omega)
      have HF : Hid (n = k) := by
        show n = k
        rw [← HN.out]
        exact common_stop p q k hpre.out hk hk' (.inl (by omega))
      go_wp2
      go_quiet (fail)
      go_wp2
      go_ret
      exact ⟨by rw [HF.out]; rfl, _, World.drewN_drewN _ _ _⟩
end Go.Proofs.Ytllnknhgkfmpnaa
