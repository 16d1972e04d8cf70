/- package roll: rebuilt and IsGrown verify a consistency proof. -/
import Derived.Test.YtlobpjpkldmnaaaRollFit
namespace Go.Proofs.Ytlobpjpkldmnaaa
set_option maxRecDepth 100000
open Go.RowKit

set_option maxHeartbeats 1000000 in
theorem reb_whole (a n k : Nat) (p : List Nat) (B : Option Addr) (c : Nat) (w : World) (ha : a < 18446744073709551616) (hp : p.length = k) :
    Calls Try.prog 34 #[.int .u64 (a : Int), .int .i64 (n : Int), .int .i64 (n : Int), .bool true, .slice B k c] w (RebGives a n n true p w) := by
  go_enter Try.func34, Try.ntmps34
  go_wp2
  go_ret3
  refine ⟨a, a, _, rfl, ?_, fun _ => ⟨by rw [gold_all _ _ _ _ _ (Nat.le_refl _)]; rfl, by rw [gnew_all _ _ _ _ _ (Nat.le_refl _)]; rfl⟩, ha, ha, Below.refl _ _⟩
  rw [gfits_all _ _ _ _ (Nat.le_refl _), hp, Bool.eq_iff_iff, beq_iff_eq, beq_iff_eq]
  simp
  try omega
set_option maxHeartbeats 1000000 in
theorem reb_none (a n m : Nat) (wh : Bool) (B : Option Addr) (c : Nat) (w : World) (h1 : 1 ≤ m) (hmn : m ≤ n) (h : m < n ∨ wh = false) :
    Calls Try.prog 34 #[.int .u64 (a : Int), .int .i64 (m : Int), .int .i64 (n : Int), .bool wh, .slice B 0 c] w (RebGives a n m wh [] w) := by
  have hP := fun w => Lib.hid (parted_no B c w)
  have HF := Lib.hid (gfits_nil n m wh h1 h)
  by_cases hn : m = n
  · subst hn
    obtain rfl : wh = false := by
      rcases h with h | h
      · omega
      · exact h
    clear h1 hmn h
    go_enter Try.func34, Try.ntmps34
    go_wp2_with fail
    refine (hP _).out.mono ?_
    rintro e w1 ⟨rfl, hw⟩
    subst hw
    go_wp2
    go_ret3
    exact ⟨0, 0, false, rfl, HF.out.symm, fun h => (by cases h), by decide, by decide, Below.refl _ _⟩
  · have c1 : ((m : Int) == (n : Int)) = false := beq_eq_false_iff_ne.2 (by omega)
    clear h1 hmn h hn
    go_enter Try.func34, Try.ntmps34
    go_wp2_with fail
    refine (hP _).out.mono ?_
    rintro e w1 ⟨rfl, hw⟩
    subst hw
    go_wp2
    go_ret3
    exact ⟨0, 0, false, rfl, HF.out.symm, fun h => (by cases h), by decide, by decide, Below.refl _ _⟩
set_option maxHeartbeats 1000000 in
theorem reb_range (a n : Nat) (q : List Nat) (x : Nat) (B : Option Addr) (c j : Nat) (w : World) (hx : x < 18446744073709551616) (hq : q.length = j) (hc : j + 1 ≤ c) (hcm : c ≤ maxLen) (hB : Row w B (mcells (q ++ [x]))) :
    Calls Try.prog 34 #[.int .u64 (a : Int), .int .i64 (n : Int), .int .i64 (n : Int), .bool false, .slice B (j + 1) c] w (RebGives a n n false (q ++ [x]) w) := by
  have hP := fun w hB => Lib.hid (parted_yes B c j x w q hq hc hcm hB)
  clear hc hcm
  go_enter Try.func34, Try.ntmps34
  go_wp2_with fail
  refine (hP _ hB).out.mono ?_
  rintro e w1 ⟨rfl, m1, rfl⟩
  clear hP
  go_wp2
  go_ret3
  refine ⟨x, x, _, rfl, ?_, fun h => ?_, hx, hx, below_of_drewN _ _ m1⟩
  · rw [gfits_all _ _ _ _ (Nat.le_refl _), Bool.eq_iff_iff, beq_iff_eq, beq_iff_eq, List.length_append, List.length_singleton, hq, if_neg (by simp)]
    omega
  · have hj : j = 0 := by
      simpa using h
    obtain rfl : q = [] := List.eq_nil_of_length_eq_zero (by omega)
    rw [gold_all _ _ _ _ _ (Nat.le_refl _), gnew_all _ _ _ _ _ (Nat.le_refl _)]
    exact ⟨rfl, rfl⟩

set_option maxHeartbeats 4000000 in
theorem reb_left (f : Nat) (ih : RebAt f) (a n m : Nat) (wh : Bool) (q : List Nat) (x : Nat) (B : Option Addr) (c j : Nat) (w : World) (hf : n ≤ f + 1) (h1 : 1 ≤ m) (h40 : n ≤ 40) (hmn : m < n) (ha : a < 18446744073709551616) (hp : ∀ z ∈ q ++ [x], z < 18446744073709551616)
    (hq : q.length = j) (hc : j + 1 ≤ c) (hcm : c ≤ maxLen) (hB : Row w B (mcells (q ++ [x]))) (k : Nat) (hk : hlf n = k) (hmk : m ≤ k) :
    Calls Try.prog 34 #[.int .u64 (a : Int), .int .i64 (m : Int), .int .i64 (n : Int), .bool wh, .slice B (j + 1) c] w (RebGives a n m wh (q ++ [x]) w) := by
  have hk2 := hlf_lt (n := n) (by omega)
  rw [hk] at hk2
  have hP := fun w hB => Lib.hid (parted_yes B c j x w q hq hc hcm hB)
  have hS := fun w => Lib.hid (rollSplit n k w (by omega) h40 hk)
  have hI := fun (w : World) hB => Lib.hid (ih a k m wh q B c j w (by omega) h1 (by omega) hmk ha (fun z hz => hp z (List.mem_append_left _ hz)) hq (by omega) hcm hB)
  have hJ := fun (a : Nat) ha w => Lib.hid (rollJoin a x _ w ha (hp x (by simp)) rfl)
  have HF := Lib.hid (gfits_left h1 hmn hk hmk wh q x)
  have HG : Hid (gfits k m wh q = true → _) := fun hf => gold_left h1 hmn hk hmk a wh q x hf
  have hB2 := hB.lastM.1
  have c1 : ((m : Int) == (n : Int)) = false := beq_eq_false_iff_ne.2 (by omega)
  have c2 : (m : Int) ≤ (k : Int) := by omega
  clear hf h1 h40 hk hp hc hcm hk2 hmk hmn ih
  go_enter Try.func34, Try.ntmps34
  go_wp2_with fail
  refine (hP _ hB).out.mono ?_
  rintro e w1 ⟨rfl, m1, rfl⟩
  clear hP hB
  go_wp2_with fail
  refine (hS _).out.mono ?_
  rintro e w2 ⟨rfl, hw⟩
  subst hw
  clear hS
  go_wp2_with fail
  refine (hI _ (hB2.drewN m1)).out.mono ?_
  rintro e w3 ⟨r, s, b, rfl, hb, hr, hr64, hs64, hb3⟩
  have hJ' := fun w => Lib.hid (hJ s hs64 w).out
  have HB := Lib.hid hb
  have HR := Lib.hid hr
  clear hI hJ hb hr
  go_wp2_with fail
  refine (hJ' _).out.mono ?_
  rintro e w4 ⟨rfl, hb4⟩
  go_wp2
  go_ret3
  refine ⟨r, _, b, rfl, HB.out.trans HF.out.symm, fun h => ?_, hr64, Nat.lt_trans (Hash.of_lt _) (by decide), below_chain (below_chain (below_of_drewN _ _ m1) hb3) hb4⟩
  obtain ⟨g1, g2⟩ := HG.out (HB.out.symm.trans h)
  obtain ⟨k1, k2⟩ := HR.out h
  rw [g1, g2, ← k1, ← k2]
  exact ⟨rfl, rfl⟩
set_option maxHeartbeats 4000000 in
theorem reb_right (f : Nat) (ih : RebAt f) (a n m : Nat) (wh : Bool) (q : List Nat) (x : Nat) (B : Option Addr) (c j : Nat) (w : World) (hf : n ≤ f + 1) (h1 : 1 ≤ m) (h40 : n ≤ 40) (hmn : m < n) (ha : a < 18446744073709551616) (hp : ∀ z ∈ q ++ [x], z < 18446744073709551616)
    (hq : q.length = j) (hc : j + 1 ≤ c) (hcm : c ≤ maxLen) (hB : Row w B (mcells (q ++ [x]))) (k : Nat) (hk : hlf n = k) (hmk : k < m) :
    Calls Try.prog 34 #[.int .u64 (a : Int), .int .i64 (m : Int), .int .i64 (n : Int), .bool wh, .slice B (j + 1) c] w (RebGives a n m wh (q ++ [x]) w) := by
  have hk1 := hlf_pos n
  have hk2 := hlf_lt (n := n) (by omega)
  rw [hk] at hk1 hk2
  have hP := fun w hB => Lib.hid (parted_yes B c j x w q hq hc hcm hB)
  have hS := fun w => Lib.hid (rollSplit n k w (by omega) h40 hk)
  have hI := fun (w : World) hB => Lib.hid (ih a (n - k) (m - k) false q B c j w (by omega) (by omega) (by omega) (by omega) ha (fun z hz => hp z (List.mem_append_left _ hz)) hq (by omega) hcm hB)
  have hJ := fun (a : Nat) ha w => Lib.hid (rollJoin x a _ w (hp x (by simp)) ha rfl)
  have HF := Lib.hid (gfits_right h1 hmn hk hmk wh q x)
  have HG : Hid (gfits (n - k) (m - k) false q = true → _) := fun hf => gold_right h1 hmn hk hmk a wh q x hf
  have hB2 := hB.lastM.1
  have c1 : ((m : Int) == (n : Int)) = false := beq_eq_false_iff_ne.2 (by omega)
  have c2 : decide (m ≤ k) = false := decide_eq_false (by omega)
  have c3 : ¬ m ≤ k := by omega
  have e1 : (n : Int) - (k : Int) = ((n - k : Nat) : Int) := by omega
  have e2 : (m : Int) - (k : Int) = ((m - k : Nat) : Int) := by omega
  have hn40 : n - k ≤ 40 := by omega
  have hm40 : m - k ≤ 40 := by omega
  generalize n - k = n' at *
  generalize m - k = m' at *
  have hw1 : IntKind.i64.wrap (n' : Int) = (n' : Int) := by rw [IntKind.wrap_i64]; omega
  have hw2 : IntKind.i64.wrap (m' : Int) = (m' : Int) := by rw [IntKind.wrap_i64]; omega
  clear hf h1 hk hp hc hcm hk1 hmk hmn ih
  go_enter Try.func34, Try.ntmps34
  go_wp2_with fail
  refine (hP _ hB).out.mono ?_
  rintro e w1 ⟨rfl, m1, rfl⟩
  clear hP hB
  go_wp2_with fail
  refine (hS _).out.mono ?_
  rintro e w2 ⟨rfl, hw⟩
  subst hw
  clear hS
  go_wp2_with fail
  first | rw [e1, e2] | skip
  refine (hI _ (hB2.drewN m1)).out.mono ?_
  rintro e w3 ⟨r, s, b, rfl, hb, hr, hr64, hs64, hb3⟩
  have hJ1 := fun w => Lib.hid (hJ r hr64 w).out
  have hJ2 := fun w => Lib.hid (hJ s hs64 w).out
  have HB := Lib.hid hb
  have HR := Lib.hid hr
  clear hI hJ hb hr
  go_wp2_with fail
  refine (hJ1 _).out.mono ?_
  rintro e w4 ⟨rfl, hb4⟩
  clear hJ1
  go_wp2_with fail
  refine (hJ2 _).out.mono ?_
  rintro e w5 ⟨rfl, hb5⟩
  clear hJ2
  go_wp2
  go_ret3
  refine ⟨_, _, b, rfl, HB.out.trans HF.out.symm, fun h => ?_, Nat.lt_trans (Hash.of_lt _) (by decide), Nat.lt_trans (Hash.of_lt _) (by decide), below_chain (below_chain (below_chain (below_of_drewN _ _ m1) hb3) hb4) hb5⟩
  obtain ⟨g1, g2⟩ := HG.out (HB.out.symm.trans h)
  obtain ⟨k1, k2⟩ := HR.out h
  rw [g1, g2, ← k1, ← k2]
  exact ⟨rfl, rfl⟩

theorem reb_at (f : Nat) : RebAt f := by
  induction f with
  | zero => intro a n m wh p B c k w hf h1 _ hmn; omega
  | succ f ih =>
    intro a n m wh p B c k w hf h1 h40 hmn ha hp hk hc hcm hB
    rcases Nat.lt_or_ge m n with h2 | h2
    · rcases List.eq_nil_or_concat p with rfl | ⟨q, x, rfl⟩
      · rw [List.length_nil] at hk
        subst hk
        exact reb_none a n m wh B c w h1 hmn (.inl h2)
      · rw [List.concat_eq_append] at *
        rw [List.length_append, List.length_singleton] at hk
        subst hk
        rcases Nat.lt_or_ge (hlf n) m with h3 | h3
        · exact reb_right f ih a n m wh q x B c q.length w hf h1 h40 h2 ha hp rfl hc hcm hB _ rfl h3
        · exact reb_left f ih a n m wh q x B c q.length w hf h1 h40 h2 ha hp rfl hc hcm hB _ rfl h3
    · obtain rfl : m = n := by omega
      cases wh with
      | true => exact reb_whole a m k p B c w ha hk
      | false =>
        rcases List.eq_nil_or_concat p with rfl | ⟨q, x, rfl⟩
        · rw [List.length_nil] at hk
          subst hk
          exact reb_none a m m false B c w h1 hmn (.inr rfl)
        · rw [List.concat_eq_append] at *
          rw [List.length_append, List.length_singleton] at hk
          subst hk
          exact reb_range a m q x B c q.length w (hp x (by simp)) rfl hc hcm hB

/-- The error of IsGrown. -/
def isgErr (m n : Int) : Int := if n < 1 ∨ 40 < n ∨ m < 1 ∨ n < m then 4 else 0
theorem isgErr_ok (m n : Int) : isgErr m n = 0 ↔ 1 ≤ n ∧ n ≤ 40 ∧ 1 ≤ m ∧ m ≤ n := by
  unfold isgErr
  (repeat' split) <;> omega
/-- Does a proof lead to both roots? -/
def isgAns (a m b n : Nat) (p : List Nat) : Bool := gfits n m true p && (gold a n m true p == a && gnew a n m true p == b)

set_option maxHeartbeats 1000000 in
theorem rollIsGrown_no (a b : Nat) (m n : Int) (B : Option Addr) (k c : Nat) (w : World) (r : Int) (hr : isgErr m n = r) (h0 : r ≠ 0) :
    Calls Try.prog 17 #[.int .u64 (a : Int), .int .i64 m, .int .u64 (b : Int), .int .i64 n, .slice B k c] w fun e w' => e = .returned (.tuple #[.bool false, .int .i64 r]) ∧ w = w' := by
  unfold isgErr at hr
  by_cases hf : n < 1 ∨ 40 < n ∨ m < 1 ∨ n < m
  · rw [if_pos hf] at hr
    subst hr
    clear h0
    by_cases h1 : n < 1
    · clear hf
      go_enter Try.func17, Try.ntmps17
      go_wp2
      go_ret2
      exact ⟨rfl, rfl⟩
    · have c1 : decide (n < 1) = false := decide_eq_false h1
      by_cases h2 : 40 < n
      · clear hf h1
        go_enter Try.func17, Try.ntmps17
        go_wp2
        go_ret2
        exact ⟨rfl, rfl⟩
      · have c2 : decide (40 < n) = false := decide_eq_false h2
        by_cases h3 : m < 1
        · clear hf h1 h2
          go_enter Try.func17, Try.ntmps17
          go_wp2
          go_ret2
          exact ⟨rfl, rfl⟩
        · have c3 : decide (m < 1) = false := decide_eq_false h3
          have c4 : decide (n < m) = true := decide_eq_true (by omega)
          clear hf h1 h2 h3
          go_enter Try.func17, Try.ntmps17
          go_wp2
          go_ret2
          exact ⟨rfl, rfl⟩
  · rw [if_neg hf] at hr
    exact absurd hr.symm h0

set_option maxHeartbeats 1000000 in
theorem rollIsGrown_yes (a b m n : Nat) (p : List Nat) (B : Option Addr) (c k : Nat) (w : World) (h1 : 1 ≤ m) (h40 : n ≤ 40) (hmn : m ≤ n) (ha : a < 18446744073709551616) (hp : ∀ z ∈ p, z < 18446744073709551616) (hk : p.length = k) (hc : k ≤ c) (hcm : c ≤ maxLen)
    (hB : Row w B (mcells p)) (r : Bool) (hr : isgAns a m b n p = r) :
    Calls Try.prog 17 #[.int .u64 (a : Int), .int .i64 (m : Int), .int .u64 (b : Int), .int .i64 (n : Int), .slice B k c] w fun e w' => e = .returned (.tuple #[.bool r, .int .i64 0]) ∧ Below w.heap.size w w' := by
  have hA := fun (w : World) hB => Lib.hid (reb_at n a n m true p B c k w (Nat.le_refl _) h1 h40 hmn ha hp hk hc hcm hB)
  have HR : Hid ((gfits n m true p && (gold a n m true p == a && gnew a n m true p == b)) = r) := hr
  have c1 : decide ((n : Int) < 1) = false := decide_eq_false (by omega)
  have c2 : decide ((40 : Int) < (n : Int)) = false := decide_eq_false (by omega)
  have c3 : decide ((m : Int) < 1) = false := decide_eq_false (by omega)
  have c4 : decide (n < m) = false := decide_eq_false (by omega)
  clear h1 h40 hmn hp hk hc hcm hr ha
  go_enter Try.func17, Try.ntmps17
  go_wp2_with fail
  refine (hA _ hB).out.mono ?_
  rintro e w2 ⟨x, y, u, rfl, hu, hx, hx64, hy64, hb2⟩
  clear hA
  cases u with
  | false =>
    have HF : Hid (r = false) := by
      show r = false
      rw [← HR.out, ← hu]
      rfl
    clear hu hx HR
    go_wp2
    go_ret2
    exact ⟨by rw [HF.out]; rfl, hb2⟩
  | true =>
    obtain ⟨hx1, hy1⟩ := hx rfl
    have HF : Hid (r = (x == a && y == b)) := by
      show r = _
      rw [← HR.out, ← hu, ← hx1, ← hy1]
      rfl
    clear hu hx hx1 hy1 HR
    by_cases hxa : x = a
    · have c5 : ((x : Int) == (a : Int)) = true := beq_iff_eq.2 (by omega)
      have HY : Hid (((y : Int) == (b : Int)) = (y == b)) := by
        show ((y : Int) == (b : Int)) = (y == b)
        rw [Bool.eq_iff_iff, beq_iff_eq, beq_iff_eq]
        omega
      have HF' : Hid (r = (y == b)) := by
        show r = _
        rw [HF.out, hxa]
        simp
      clear hxa HF
      go_wp2
      go_ret2
      exact ⟨by rw [HF'.out, ← HY.out]; rfl, hb2⟩
    · have c5 : ((x : Int) == (a : Int)) = false := beq_eq_false_iff_ne.2 (by omega)
      have HF' : Hid (r = false) := by
        show r = _
        rw [HF.out, beq_eq_false_iff_ne.2 hxa]
        rfl
      clear hxa HF
      go_wp2
      go_ret2
      exact ⟨by rw [HF'.out]; rfl, hb2⟩
end Go.Proofs.Ytlobpjpkldmnaaa
