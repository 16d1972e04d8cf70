/- package roll: parted takes the last hash off a proof, around combines a hash with a proof's, IsIn verifies an inclusion proof; Root. -/
import Derived.Test.YtlobpjpkldmnaaaRollHash
import Derived.Test.YtlobpjpkldmnaaaRollRow
import Derived.OwnWalk
namespace Go.Proofs.Ytlobpjpkldmnaaa
set_option maxRecDepth 100000
open Go.RowKit

set_option maxHeartbeats 1000000 in
theorem rollRoot_yes (A : Option Addr) (c : Nat) (l : List Bytes) (w : World) (hg : RGood l) (hc : l.length ≤ c) (hA : Row w A (scells l)) (x : Nat) (hx : rhash l = x) :
    Calls Try.prog 8 #[.slice A l.length c] w fun e w' => e = .returned (.tuple #[.int .u64 (x : Int), .int .i64 0]) ∧ Below w.heap.size w w' := by
  have hC := fun w hA => Lib.hid (rollCheck A c l w (by have := hg.le; unfold maxLen; omega) (fun s hs => by have := hg.each s hs; unfold maxLen; omega) hA 0 ((rfault_ok l).2 hg))
  have hB := fun w hA => Lib.hid (rollHash l A c l.length w rfl hg.pos hg.le hc hg.each hA x hx)
  clear hg hc hx
  go_enter Try.func8, Try.ntmps8
  go_wp2_with fail
  refine (hC _ hA).out.mono ?_
  rintro e w1 ⟨rfl, hw⟩
  subst hw
  clear hC
  go_wp2_with fail
  refine (hB _ hA).out.mono ?_
  rintro e w2 ⟨rfl, hb2⟩
  go_wp2
  go_ret2
  exact ⟨rfl, hb2⟩
set_option maxHeartbeats 1000000 in
theorem rollRoot_no (A : Option Addr) (c : Nat) (l : List Bytes) (w : World) (hm : l.length ≤ maxLen) (hl : ∀ s ∈ l, s.length ≤ maxLen) (hA : Row w A (scells l)) (r : Int) (hr : rfault l = r) (h0 : r ≠ 0) :
    Calls Try.prog 8 #[.slice A l.length c] w fun e w' => e = .returned (.tuple #[.int .u64 0, .int .i64 r]) ∧ w = w' := by
  have hC := fun w hA => Lib.hid (rollCheck A c l w hm hl hA r hr)
  have c1 : (r == 0) = false := beq_eq_false_iff_ne.2 h0
  clear hm hl hr
  go_enter Try.func8, Try.ntmps8
  go_wp2_with fail
  refine (hC _ hA).out.mono ?_
  rintro e w1 ⟨rfl, rfl⟩
  go_wp2
  go_ret2
  exact ⟨rfl, rfl⟩

theorem mcells_take (p : List Nat) (k : Nat) : mcells (p.take k) = (mcells p).take k := by simp [mcells]
theorem mcells_drop (p : List Nat) (k : Nat) : mcells (p.drop k) = (mcells p).drop k := by simp [mcells]
theorem Row.lastM {w : World} {B : Option Addr} {q : List Nat} {x : Nat} (h : Row w B (mcells (q ++ [x]))) : Row w B (mcells q) ∧ ∃ g off, B = some ⟨g, off, none⟩ ∧ w.cell? ⟨g, off + q.length, none⟩ = some (.int .u64 (x : Int)) := by
  refine ⟨?_, ?_⟩
  · have := h.take q.length
    rw [← mcells_take, List.take_left] at this
    exact this
  · obtain ⟨g, off, e, hc⟩ := h.mark q.length (by simp)
    refine ⟨g, off, e, ?_⟩
    rw [hc]
    simp

set_option maxHeartbeats 400000 in
theorem parted_no (B : Option Addr) (c : Nat) (w : World) :
    Calls Try.prog 42 #[.slice B 0 c] w fun e w' => e = .returned (.tuple #[.slice none 0 0, .int .u64 0, .bool false]) ∧ w = w' := by
  go_enter Try.func42, Try.ntmps42
  go_wp2
  go_ret3
  exact ⟨rfl, rfl⟩
set_option maxHeartbeats 400000 in
theorem parted_yes (B : Option Addr) (c n x : Nat) (w : World) (q : List Nat) (hn : q.length = n) (hc : n + 1 ≤ c) (hm : c ≤ maxLen) (hB : Row w B (mcells (q ++ [x]))) :
    Calls Try.prog 42 #[.slice B (n + 1) c] w fun e w' => e = .returned (.tuple #[.slice B n c, .int .u64 (x : Int), .bool true]) ∧ ∃ m, w' = w.drewN m := by
  obtain ⟨-, g, off, rfl, j1⟩ := hB.lastM
  rw [hn] at j1
  unfold maxLen at hm
  have i0 : (0 : Int) ≤ (n : Int) := by omega
  have i1 : (n : Int) ≤ (c : Int) := by omega
  have i2 : (n : Int) < (n : Int) + 1 := by omega
  have hw : IntKind.i64.wrap ((n : Int) + 1 - 1) = (n : Int) := by rw [IntKind.wrap_i64]; omega
  have c1 : ((n : Int) + 1 == 0) = false := beq_eq_false_iff_ne.2 (by omega)
  clear hB hn
  go_enter Try.func42, Try.ntmps42
  go_wp2
  go_quiet (fail)
  go_wp2
  go_ret3
  exact ⟨by simp, _, rfl⟩

/-- What around leaves. -/
def AroundGives (s : List Bool) (h : Nat) (p : List Nat) (w : World) (e : Ending) (w' : World) : Prop :=
  ∃ (r : Nat) (b : Bool), e = .returned (.tuple #[.int .u64 (r : Int), .bool b]) ∧ b = (p.length == s.length) ∧ (b = true → r = mk h s p) ∧ r < 18446744073709551616 ∧ Below w.heap.size w w'

def ArdAt (f : Nat) : Prop := ∀ (h n i : Nat) (p : List Nat) (B : Option Addr) (c k : Nat) (w : World), n ≤ f → 1 ≤ n → n ≤ 40 → i < n → h < 18446744073709551616 → (∀ z ∈ p, z < 18446744073709551616) → p.length = k → k ≤ c → c ≤ maxLen → Row w B (mcells p) →
  Calls Try.prog 28 #[.int .u64 (h : Int), .int .i64 (n : Int), .int .i64 (i : Int), .slice B k c] w (AroundGives (sides n i) h p w)

set_option maxHeartbeats 1000000 in
theorem around_one (h i k : Nat) (p : List Nat) (B : Option Addr) (c : Nat) (w : World) (hh : h < 18446744073709551616) (hp : p.length = k) :
    Calls Try.prog 28 #[.int .u64 (h : Int), .int .i64 1, .int .i64 (i : Int), .slice B k c] w (AroundGives (sides 1 i) h p w) := by
  rw [sides_none i (Nat.le_refl 1)]
  go_enter Try.func28, Try.ntmps28
  go_wp2
  go_ret2
  refine ⟨h, _, rfl, ?_, fun _ => rfl, hh, Below.refl _ _⟩
  rw [hp, List.length_nil, Bool.eq_iff_iff, beq_iff_eq, beq_iff_eq]
  omega
set_option maxHeartbeats 1000000 in
theorem around_none (h n i : Nat) (s : List Bool) (hs : 0 < s.length) (B : Option Addr) (c : Nat) (w : World) (h2 : 2 ≤ n) :
    Calls Try.prog 28 #[.int .u64 (h : Int), .int .i64 (n : Int), .int .i64 (i : Int), .slice B 0 c] w (AroundGives s h [] w) := by
  have hP := fun w => Lib.hid (parted_no B c w)
  have c1 : ((n : Int) == 1) = false := beq_eq_false_iff_ne.2 (by omega)
  clear h2
  go_enter Try.func28, Try.ntmps28
  go_wp2_with fail
  refine (hP _).out.mono ?_
  rintro e w1 ⟨rfl, hw⟩
  subst hw
  go_wp2
  go_ret2
  exact ⟨0, false, rfl, by rw [List.length_nil]; symm; rw [beq_eq_false_iff_ne]; omega, fun h => (by cases h), by decide, Below.refl _ _⟩

set_option maxHeartbeats 2000000 in
theorem around_left (f : Nat) (ih : ArdAt f) (h n i : Nat) (q : List Nat) (x : Nat) (B : Option Addr) (c m : Nat) (w : World) (hf : n ≤ f + 1) (h2 : 2 ≤ n) (h40 : n ≤ 40) (hh : h < 18446744073709551616) (hp : ∀ z ∈ q ++ [x], z < 18446744073709551616)
    (hq : q.length = m) (hc : m + 1 ≤ c) (hcm : c ≤ maxLen) (hB : Row w B (mcells (q ++ [x]))) (k : Nat) (hk : hlf n = k) (hi : i < k) :
    Calls Try.prog 28 #[.int .u64 (h : Int), .int .i64 (n : Int), .int .i64 (i : Int), .slice B (m + 1) c] w (AroundGives (sides n i) h (q ++ [x]) w) := by
  have hk1 := hlf_pos n
  have hk2 := hlf_lt h2
  rw [hk] at hk1 hk2
  rw [sides_left h2 (by omega), hk]
  have hP := fun w hB => Lib.hid (parted_yes B c m x w q hq hc hcm hB)
  have hS := fun w => Lib.hid (rollSplit n k w h2 h40 hk)
  have hI := fun (w : World) hB => Lib.hid (ih h k i q B c m w (by omega) hk1 (by omega) hi hh (fun z hz => hp z (List.mem_append_left _ hz)) hq (by omega) hcm hB)
  have hJ := fun (a : Nat) ha w => Lib.hid (rollJoin a x _ w ha (hp x (by simp)) rfl)
  have hB2 := hB.lastM.1
  have c1 : ((n : Int) == 1) = false := beq_eq_false_iff_ne.2 (by omega)
  have c2 : (i : Int) < (k : Int) := by omega
  clear hf h2 h40 hk hp hc hcm hk1 hk2 hi ih
  generalize hs : sides k i = s at *
  clear hs
  go_enter Try.func28, Try.ntmps28
  go_wp2_with fail
  refine (hP _ hB).out.mono ?_
  rintro e w1 ⟨rfl, m1, rfl⟩
  clear hP hB
  go_wp2_with fail
  refine (hS _).out.mono ?_
  rintro e w2 ⟨rfl, hw⟩
  subst hw
  clear hS
  go_wp2_with fail
  refine (hI _ (hB2.drewN m1)).out.mono ?_
  rintro e w3 ⟨r, b, rfl, hb, hr, hr64, hb3⟩
  have hJ' := fun w => Lib.hid (hJ r hr64 w).out
  have HB := Lib.hid hb
  have HR := Lib.hid hr
  clear hI hJ hb hr
  go_wp2_with fail
  refine (hJ' _).out.mono ?_
  rintro e w4 ⟨rfl, hb4⟩
  go_wp2
  go_ret2
  refine ⟨_, b, rfl, ?_, fun h1 => ?_, Nat.lt_trans (Hash.of_lt _) (by decide), below_chain (below_chain (below_of_drewN _ _ m1) hb3) hb4⟩
  · rw [HB.out]; simp
  · rw [mk_snoc _ _ _ _ _ (by have hb := HB.out; rw [h1] at hb; exact (beq_iff_eq.1 hb.symm).symm), HR.out h1]
    rfl
set_option maxHeartbeats 2000000 in
theorem around_right (f : Nat) (ih : ArdAt f) (h n j : Nat) (q : List Nat) (x : Nat) (B : Option Addr) (c m : Nat) (w : World) (hf : n ≤ f + 1) (h2 : 2 ≤ n) (h40 : n ≤ 40) (hh : h < 18446744073709551616) (hp : ∀ z ∈ q ++ [x], z < 18446744073709551616)
    (hq : q.length = m) (hc : m + 1 ≤ c) (hcm : c ≤ maxLen) (hB : Row w B (mcells (q ++ [x]))) (k : Nat) (hk : hlf n = k) (hj : j < n) (hi : k ≤ j) :
    Calls Try.prog 28 #[.int .u64 (h : Int), .int .i64 (n : Int), .int .i64 (j : Int), .slice B (m + 1) c] w (AroundGives (sides n j) h (q ++ [x]) w) := by
  have hk1 := hlf_pos n
  have hk2 := hlf_lt h2
  rw [hk] at hk1 hk2
  rw [sides_right h2 (by omega), hk]
  have hP := fun w hB => Lib.hid (parted_yes B c m x w q hq hc hcm hB)
  have hS := fun w => Lib.hid (rollSplit n k w h2 h40 hk)
  have hI := fun (w : World) hB => Lib.hid (ih h (n - k) (j - k) q B c m w (by omega) (by omega) (by omega) (by omega) hh (fun z hz => hp z (List.mem_append_left _ hz)) hq (by omega) hcm hB)
  have hJ := fun (a : Nat) ha w => Lib.hid (rollJoin x a _ w (hp x (by simp)) ha rfl)
  have hB2 := hB.lastM.1
  have c1 : ((n : Int) == 1) = false := beq_eq_false_iff_ne.2 (by omega)
  have c2 : decide ((j : Int) < (k : Int)) = false := decide_eq_false (by omega)
  have hw1 : IntKind.i64.wrap ((n : Int) - (k : Int)) = ((n - k : Nat) : Int) := by rw [IntKind.wrap_i64]; omega
  have hw2 : IntKind.i64.wrap ((j : Int) - (k : Int)) = ((j - k : Nat) : Int) := by rw [IntKind.wrap_i64]; omega
  have e1 : (n : Int) - (k : Int) = ((n - k : Nat) : Int) := by omega
  have e2 : (j : Int) - (k : Int) = ((j - k : Nat) : Int) := by omega
  generalize n - k = n' at *
  generalize j - k = j' at *
  have E1 := Lib.hid e1
  have E2 := Lib.hid e2
  rw [e1] at hw1
  rw [e2] at hw2
  clear hf h2 hk hp hc hcm hk1 hi ih
  generalize hs : sides n' j' = s at *
  clear hs
  go_enter Try.func28, Try.ntmps28
  go_wp2_with fail
  refine (hP _ hB).out.mono ?_
  rintro e w1 ⟨rfl, m1, rfl⟩
  clear hP hB
  go_wp2_with fail
  refine (hS _).out.mono ?_
  rintro e w2 ⟨rfl, hw⟩
  subst hw
  clear hS
  go_wp2_with fail
  first | rw [e1, e2] | skip
  refine (hI _ (hB2.drewN m1)).out.mono ?_
  rintro e w3 ⟨r, b, rfl, hb, hr, hr64, hb3⟩
  have hJ' := fun w => Lib.hid (hJ r hr64 w).out
  have HB := Lib.hid hb
  have HR := Lib.hid hr
  clear hI hJ hb hr
  go_wp2_with fail
  refine (hJ' _).out.mono ?_
  rintro e w4 ⟨rfl, hb4⟩
  go_wp2
  go_ret2
  refine ⟨_, b, rfl, ?_, fun h1 => ?_, Nat.lt_trans (Hash.of_lt _) (by decide), below_chain (below_chain (below_of_drewN _ _ m1) hb3) hb4⟩
  · rw [HB.out]; simp
  · rw [mk_snoc _ _ _ _ _ (by have hb := HB.out; rw [h1] at hb; exact (beq_iff_eq.1 hb.symm).symm), HR.out h1]
    rfl

theorem around_at (f : Nat) : ArdAt f := by
  induction f with
  | zero => intro h n i p B c k w hf h1; omega
  | succ f ih =>
    intro h n i p B c k w hf h1 h40 hi hh hp hk hc hcm hB
    rcases Nat.lt_or_ge 1 n with h2 | h2
    · rcases List.eq_nil_or_concat p with rfl | ⟨q, x, rfl⟩
      · rw [List.length_nil] at hk
        subst hk
        refine around_none h n i (sides n i) ?_ B c w h2
        rcases Nat.lt_or_ge i (hlf n) with h | h
        · rw [sides_left h2 h]; simp
        · rw [sides_right h2 h]; simp
      · rw [List.concat_eq_append] at *
        rw [List.length_append, List.length_singleton] at hk
        subst hk
        rcases Nat.lt_or_ge i (hlf n) with h3 | h3
        · exact around_left f ih h n i q x B c q.length w hf h2 h40 hh hp rfl hc hcm hB _ rfl h3
        · exact around_right f ih h n i q x B c q.length w hf h2 h40 hh hp rfl hc hcm hB _ rfl hi h3
    · obtain rfl : n = 1 := by omega
      exact around_one h i k p B c w hh hk
end Go.Proofs.Ytlobpjpkldmnaaa
