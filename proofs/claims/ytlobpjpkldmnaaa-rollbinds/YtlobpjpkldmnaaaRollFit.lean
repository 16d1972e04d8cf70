/- package roll: IsIn verifies an inclusion proof; what a consistency proof makes, step by step. -/
import Derived.Test.YtlobpjpkldmnaaaRollAround
namespace Go.Proofs.Ytlobpjpkldmnaaa
set_option maxRecDepth 100000
open Go.RowKit

/-- The error of IsIn. -/
def isErr (n i : Int) (t : Bytes) : Int := if n < 1 ∨ 40 < n ∨ i < 0 ∨ n ≤ i then 4 else if 40 < t.length then 2 else 0
theorem isErr_ok (n i : Int) (t : Bytes) : isErr n i t = 0 ↔ (1 ≤ n ∧ n ≤ 40 ∧ 0 ≤ i ∧ i < n) ∧ t.length ≤ 40 := by
  unfold isErr
  (repeat' split) <;> omega
/-- Does a proof lead from a text to a root? -/
def isAns (root n i : Nat) (t : Bytes) (p : List Nat) : Bool := (p.length == (sides n i).length) && (mk (Hash.of (4 :: t)) (sides n i) p == root)

set_option maxHeartbeats 1000000 in
theorem rollIsIn_no (root : Nat) (n i : Int) (t : Bytes) (B : Option Addr) (k c : Nat) (w : World) (ht : t.length ≤ maxLen) (r : Int) (hr : isErr n i t = r) (h0 : r ≠ 0) :
    Calls Try.prog 10 #[.int .u64 (root : Int), .int .i64 n, .int .i64 i, .string (S t), .slice B k c] w fun e w' => e = .returned (.tuple #[.bool false, .int .i64 r]) ∧ w = w' := by
  unfold isErr at hr
  unfold maxLen at ht
  by_cases hf : n < 1 ∨ 40 < n ∨ i < 0 ∨ n ≤ i
  · rw [if_pos hf] at hr
    subst hr
    clear h0
    by_cases h1 : n < 1
    · clear hf
      go_enter Try.func10, Try.ntmps10
      go_wp2
      go_ret2
      exact ⟨rfl, rfl⟩
    · have c1 : decide (n < 1) = false := decide_eq_false h1
      by_cases h2 : 40 < n
      · clear hf h1
        go_enter Try.func10, Try.ntmps10
        go_wp2
        go_ret2
        exact ⟨rfl, rfl⟩
      · have c2 : decide (40 < n) = false := decide_eq_false h2
        by_cases h3 : i < 0
        · clear hf h1 h2
          go_enter Try.func10, Try.ntmps10
          go_wp2
          go_ret2
          exact ⟨rfl, rfl⟩
        · have c3 : decide (i < 0) = false := decide_eq_false h3
          have c4 : decide (n ≤ i) = true := decide_eq_true (by omega)
          clear hf h1 h2 h3
          go_enter Try.func10, Try.ntmps10
          go_wp2
          go_ret2
          exact ⟨rfl, rfl⟩
  · rw [if_neg hf] at hr
    by_cases h4 : 40 < t.length
    · rw [if_pos h4] at hr
      subst hr
      have c1 : decide (n < 1) = false := decide_eq_false (by omega)
      have c2 : decide (40 < n) = false := decide_eq_false (by omega)
      have c3 : decide (i < 0) = false := decide_eq_false (by omega)
      have c4 : decide (n ≤ i) = false := decide_eq_false (by omega)
      have c5 : decide ((40 : Int) < (t.length : Int)) = true := decide_eq_true (by omega)
      clear hf h0 h4
      go_enter Try.func10, Try.ntmps10
      go_wp2
      go_ret2
      exact ⟨rfl, rfl⟩
    · rw [if_neg h4] at hr
      exact absurd hr.symm h0

set_option maxHeartbeats 1000000 in
theorem rollIsIn_yes (root n i : Nat) (t : Bytes) (p : List Nat) (B : Option Addr) (c k : Nat) (w : World) (h1 : 1 ≤ n) (h40 : n ≤ 40) (hi : i < n) (ht : t.length ≤ 40) (hp : ∀ z ∈ p, z < 18446744073709551616) (hk : p.length = k) (hc : k ≤ c) (hcm : c ≤ maxLen)
    (hB : Row w B (mcells p)) (r : Bool) (hr : isAns root n i t p = r) :
    Calls Try.prog 10 #[.int .u64 (root : Int), .int .i64 (n : Int), .int .i64 (i : Int), .string (S t), .slice B k c] w fun e w' => e = .returned (.tuple #[.bool r, .int .i64 0]) ∧ Below w.heap.size w w' := by
  have hO := fun w => Lib.hid (rollOne t _ w (by unfold maxLen; omega) rfl)
  have ho : Hash.of (4 :: t) < 18446744073709551616 := Nat.lt_trans (Hash.of_lt _) (by decide)
  have hA := fun (w : World) hB => Lib.hid (around_at n (Hash.of (4 :: t)) n i p B c k w (Nat.le_refl _) h1 h40 hi ho hp hk hc hcm hB)
  have HR : Hid (((p.length == (sides n i).length) && (mk (Hash.of (4 :: t)) (sides n i) p == root)) = r) := hr
  generalize Hash.of (4 :: t) = o at *
  generalize sides n i = s at *
  have c1 : decide ((n : Int) < 1) = false := decide_eq_false (by omega)
  have c2 : decide ((40 : Int) < (n : Int)) = false := decide_eq_false (by omega)
  have c3 : decide ((i : Int) < 0) = false := decide_eq_false (by omega)
  have c4 : decide (n ≤ i) = false := decide_eq_false (by omega)
  have c5 : decide ((40 : Int) < (t.length : Int)) = false := decide_eq_false (by omega)
  clear h1 h40 hi hp hk hc hcm hr ho
  go_enter Try.func10, Try.ntmps10
  go_wp2_with fail
  refine (hO _).out.mono ?_
  rintro e w1 ⟨rfl, m1, rfl⟩
  clear hO
  go_wp2_with fail
  refine (hA _ (hB.drewN m1)).out.mono ?_
  rintro e w2 ⟨x, b, rfl, hb, hx, hx64, hb2⟩
  have hb02 := below_chain (below_of_drewN _ _ m1) hb2
  clear hA
  cases b with
  | false =>
    have HF : Hid (r = false) := by
      show r = false
      rw [← HR.out, ← hb]
      rfl
    clear hb hx HR
    go_wp2
    go_ret2
    exact ⟨by rw [HF.out]; rfl, hb02⟩
  | true =>
    have hx' := hx rfl
    have HF : Hid (r = (x == root)) := by
      show r = _
      rw [← HR.out, ← hb, ← hx']
      rfl
    have HX : Hid (((x : Int) == (root : Int)) = (x == root)) := by
      show ((x : Int) == (root : Int)) = (x == root)
      rw [Bool.eq_iff_iff, beq_iff_eq, beq_iff_eq]
      omega
    clear hb hx hx' HR
    go_wp2
    go_ret2
    exact ⟨by rw [HF.out, ← HX.out]; rfl, hb02⟩

/- What a consistency proof makes, step by step from its last hash. -/
theorem gfits_all (n m : Nat) (wh : Bool) (p : List Nat) (h : n ≤ m) : gfits n m wh p = (p.length == if wh then 0 else 1) := by
  unfold gfits
  rw [turns_none h]
  cases wh <;> simp
theorem gold_all (a n m : Nat) (wh : Bool) (p : List Nat) (h : n ≤ m) : gold a n m wh p = core a wh p := by
  unfold gold
  rw [turns_none h]
  cases wh <;> rfl
theorem gnew_all (a n m : Nat) (wh : Bool) (p : List Nat) (h : n ≤ m) : gnew a n m wh p = core a wh p := by
  unfold gnew
  rw [turns_none h]
  cases wh <;> rfl
theorem gfits_nil (n m : Nat) (wh : Bool) (h1 : 1 ≤ m) (h : m < n ∨ wh = false) : gfits n m wh [] = false := by
  unfold gfits
  rw [beq_eq_false_iff_ne, List.length_nil]
  rcases Nat.lt_or_ge m n with h2 | h2
  · rcases Nat.lt_or_ge (hlf n) m with h3 | h3
    · rw [turns_right h1 h2 h3, List.length_cons]; omega
    · rw [turns_left h1 h2 h3, List.length_cons]; omega
  · rcases h with h | rfl
    · omega
    · simp
theorem gfits_left {n m k : Nat} (h1 : 1 ≤ m) (h2 : m < n) (hk : hlf n = k) (h3 : m ≤ k) (wh : Bool) (q : List Nat) (x : Nat) : gfits n m wh (q ++ [x]) = gfits k m wh q := by
  subst hk
  unfold gfits
  rw [turns_left h1 h2 h3, List.length_cons, List.length_append, List.length_singleton, List.all_cons, id_eq, Bool.true_and, Bool.eq_iff_iff, beq_iff_eq, beq_iff_eq]
  omega
theorem gfits_right {n m k : Nat} (h1 : 1 ≤ m) (h2 : m < n) (hk : hlf n = k) (h3 : k < m) (wh : Bool) (q : List Nat) (x : Nat) : gfits n m wh (q ++ [x]) = gfits (n - k) (m - k) false q := by
  subst hk
  unfold gfits
  rw [turns_right h1 h2 h3, List.length_cons, List.length_append, List.length_singleton, List.all_cons, id_eq, Bool.false_and, Bool.and_false, Bool.eq_iff_iff, beq_iff_eq, beq_iff_eq]
  simp
theorem core_snoc (a : Nat) (wh : Bool) (q : List Nat) (x : Nat) (h : wh = true ∨ q ≠ []) : core a wh (q ++ [x]) = core a wh q := by
  unfold core
  cases wh
  · rcases q with _ | ⟨y, q⟩
    · simp at h
    · rfl
  · rfl
theorem body_snoc (wh : Bool) (q : List Nat) (x : Nat) (h : wh = true ∨ q ≠ []) : body wh (q ++ [x]) = body wh q ++ [x] := by
  unfold body
  cases wh
  · rcases q with _ | ⟨y, q⟩
    · simp at h
    · rfl
  · rfl
theorem fits_body {n m : Nat} {wh : Bool} {q : List Nat} (h : gfits n m wh q = true) : ((wh && (turns n m).all id) = true ∨ q ≠ []) ∧ (turns n m).length = (body (wh && (turns n m).all id) q).length := by
  unfold gfits at h
  rw [beq_iff_eq] at h
  unfold body
  generalize (wh && (turns n m).all id) = u at *
  cases u
  · simp only [Bool.false_eq_true, if_false] at h ⊢
    refine ⟨.inr ?_, by rw [List.length_tail]; omega⟩
    rintro rfl
    simp at h
  · simp only [if_true] at h ⊢
    exact ⟨.inl trivial, by omega⟩
theorem gold_left {n m k : Nat} (h1 : 1 ≤ m) (h2 : m < n) (hk : hlf n = k) (h3 : m ≤ k) (a : Nat) (wh : Bool) (q : List Nat) (x : Nat) (hf : gfits k m wh q = true) :
    gold a n m wh (q ++ [x]) = gold a k m wh q ∧ gnew a n m wh (q ++ [x]) = two true (gnew a k m wh q) x := by
  subst hk
  obtain ⟨hu, hl⟩ := fits_body hf
  unfold gold gnew
  rw [turns_left h1 h2 h3, List.all_cons, id_eq, Bool.true_and, core_snoc _ _ _ _ hu, body_snoc _ _ _ hu]
  exact ⟨by rw [mo_snoc _ _ _ _ _ hl, if_pos rfl], mk_snoc _ _ _ _ _ hl⟩
theorem gold_right {n m k : Nat} (h1 : 1 ≤ m) (h2 : m < n) (hk : hlf n = k) (h3 : k < m) (a : Nat) (wh : Bool) (q : List Nat) (x : Nat) (hf : gfits (n - k) (m - k) false q = true) :
    gold a n m wh (q ++ [x]) = two false (gold a (n - k) (m - k) false q) x ∧ gnew a n m wh (q ++ [x]) = two false (gnew a (n - k) (m - k) false q) x := by
  subst hk
  obtain ⟨hu, hl⟩ := fits_body hf
  unfold gold gnew
  rw [turns_right h1 h2 h3, List.all_cons, id_eq, Bool.false_and, Bool.and_false]
  rw [Bool.false_and] at hu hl
  rw [core_snoc _ _ _ _ hu, body_snoc _ _ _ hu]
  exact ⟨by rw [mo_snoc _ _ _ _ _ hl, if_neg (by simp)], mk_snoc _ _ _ _ _ hl⟩

/-- What rebuilt leaves. -/
def RebGives (a n m : Nat) (wh : Bool) (p : List Nat) (w : World) (e : Ending) (w' : World) : Prop :=
  ∃ (x y : Nat) (b : Bool), e = .returned (.tuple #[.int .u64 (x : Int), .int .u64 (y : Int), .bool b]) ∧ b = gfits n m wh p ∧ (b = true → x = gold a n m wh p ∧ y = gnew a n m wh p) ∧ x < 18446744073709551616 ∧ y < 18446744073709551616 ∧ Below w.heap.size w w'

def RebAt (f : Nat) : Prop := ∀ (a n m : Nat) (wh : Bool) (p : List Nat) (B : Option Addr) (c k : Nat) (w : World), n ≤ f → 1 ≤ m → n ≤ 40 → m ≤ n → a < 18446744073709551616 → (∀ z ∈ p, z < 18446744073709551616) → p.length = k → k ≤ c → c ≤ maxLen → Row w B (mcells p) →
  Calls Try.prog 34 #[.int .u64 (a : Int), .int .i64 (m : Int), .int .i64 (n : Int), .bool wh, .slice B k c] w (RebGives a n m wh p w)

end Go.Proofs.Ytlobpjpkldmnaaa
