/- RollBinds: if an inclusion proof verifies for a different string, a collision stands on the way. -/
import Derived.Test.YtlobpjpkldmnaaaRollLive
import Derived.Test.YtlobpjpkldmnaaaRollSaid
import Derived.Test.YtlobpjpkldmnaaaAlike
import Derived.Test.YtlobpjpkldmnaaaRollArgs
namespace Go.Proofs.Ytlobpjpkldmnaaa
set_option maxRecDepth 100000
open Go.ChangeShapes Go.WideShapes Go.ChangeAt Go.RowKit

theorem said5_inj {a b c d : Nat} (ha : a < 18446744073709551616) (hb : b < 18446744073709551616) (hc : c < 18446744073709551616) (hd : d < 18446744073709551616) (h : said 5 a b = said 5 c d) : a = c ∧ b = d := by
  unfold said at h
  injection h with _ h2
  have h3 := List.append_inj h2 (by rw [be8_length, be8_length])
  exact ⟨be8_inj ha hc h3.1, be8_inj hb hd h3.2⟩
/-- Two ways with one root, no collision on them: they begin with the same string. -/
theorem same_start (t u : Bytes) (s : List Bool) (p q : List Nat) (hp : s.length = p.length) (hq : s.length = q.length) (hp64 : ∀ z ∈ p, z < 18446744073709551616) (hq64 : ∀ z ∈ q, z < 18446744073709551616)
    (hroot : mk (Hash.of (4 :: t)) s p = mk (Hash.of (4 :: u)) s q) (hno : ∀ k, k ≤ p.length → alikeB (sdAt t s p k) (sdAt u s q k) = false) : t = u := by
  have step : ∀ k, k ≤ p.length → Hash.of (sdAt t s p k) = Hash.of (sdAt u s q k) → sdAt t s p k = sdAt u s q k := by
    intro k hk he
    have h := hno k hk
    by_cases hh : sdAt t s p k = sdAt u s q k
    · exact hh
    · exact absurd ((alikeB_iff _ _).2 ⟨hh, he⟩) (by rw [h]; simp)
  have top : Hash.of (sdAt t s p p.length) = Hash.of (sdAt u s q p.length) := by
    rw [sdAt_mk t s p hp _ (Nat.le_refl _), sdAt_mk u s q hq _ (by omega), mkTo_all _ _ _ _ (Nat.le_refl _), mkTo_all _ _ _ _ (by omega)]
    exact hroot
  have all : ∀ j, j ≤ p.length → sdAt t s p (p.length - j) = sdAt u s q (p.length - j) := by
    intro j
    induction j with
    | zero => intro _; exact step _ (Nat.le_refl _) top
    | succ j ih =>
      intro hj
      have e := ih (by omega)
      obtain ⟨k, hk⟩ : ∃ k, p.length - (j + 1) = k := ⟨_, rfl⟩
      rw [show p.length - j = k + 1 by omega] at e
      rw [hk]
      obtain ⟨b, hb⟩ : ∃ b, s[s.length - 1 - k]? = some b := ⟨_, List.getElem?_eq_getElem (by omega)⟩
      have hkp : k < p.length := by omega
      have hkq : k < q.length := by omega
      rw [sdAt_succ t s p k hp hkp b hb, sdAt_succ u s q k hq hkq b hb] at e
      refine step k (by omega) ?_
      have x1 : Hash.of (sdAt t s p k) < 18446744073709551616 := Nat.lt_trans (Hash.of_lt _) (by decide)
      have x2 : Hash.of (sdAt u s q k) < 18446744073709551616 := Nat.lt_trans (Hash.of_lt _) (by decide)
      have y1 := hp64 _ (List.getElem_mem hkp)
      have y2 := hq64 _ (List.getElem_mem hkq)
      unfold sd at e
      cases b
      · exact (said5_inj y1 x1 y2 x2 e).2
      · exact (said5_inj x1 y1 x2 y2 e).1
  have e := all p.length (Nat.le_refl _)
  rw [Nat.sub_self] at e
  injection e

set_option maxHeartbeats 1000000 in
theorem binds_fault (A : Option Addr) (c : Nat) (l : List Bytes) (i : Int) (t : Bytes) (B : Option Addr) (k d : Nat) (w : World) (hm : l.length ≤ maxLen) (hl : ∀ s ∈ l, s.length ≤ maxLen) (hA : Row w A (scells l)) (h0 : rfault l ≠ 0) :
    Calls Try.prog 6 #[.slice A l.length c, .int .i64 i, .string (S t), .slice B k d] w fun e w' => e = .returned (.bool true) ∧ Below w.heap.size w w' := by
  have hL := fun w => Lib.hid (rolls w)
  have hR := fun w hA => Lib.hid (rollRoot_no A c l w hm hl hA _ rfl h0)
  have hI := fun w hA => Lib.hid (rollIn_no A c l i w hm hl hA (rfault l) (by unfold inErr; rw [if_pos h0]) h0)
  generalize rfault l = r at *
  have h2 := fun w g hg => Lib.hid (goods2 r r w g 25 hg false (by rw [beq_eq_false_iff_ne.2 h0]; rfl))
  clear hm hl h0
  go_enter Try.func6, Try.ntmps6
  go_wp2_with fail
  refine (hL _).out.mono ?_
  rintro e w1 ⟨rfl, hb1⟩
  have hA1 := hA.below hb1
  clear hL hA
  go_wp2_with fail
  refine (hR _ hA1).out.mono ?_
  rintro e w2 ⟨rfl, hw⟩
  subst hw
  clear hR
  go_wp2_with fail
  refine (hI _ hA1).out.mono ?_
  rintro e w2 ⟨rfl, hw⟩
  subst hw
  clear hI hA1
  go_wp2_with fail
  refine (h2 _ _ rfl).out.mono ?_
  rintro e w3 ⟨rfl, hw⟩
  subst hw
  go_wp2
  go_ret
  exact ⟨rfl, hb1.alloc hb1.size _⟩
set_option maxHeartbeats 1000000 in
theorem binds_range (A : Option Addr) (c : Nat) (l : List Bytes) (i : Int) (t : Bytes) (B : Option Addr) (k d : Nat) (w : World) (hm : l.length ≤ maxLen) (hl : ∀ s ∈ l, s.length ≤ maxLen) (hc : l.length ≤ c) (hA : Row w A (scells l)) (hg : RGood l) (h0 : inErr l i ≠ 0) :
    Calls Try.prog 6 #[.slice A l.length c, .int .i64 i, .string (S t), .slice B k d] w fun e w' => e = .returned (.bool true) ∧ Below w.heap.size w w' := by
  have hL := fun w => Lib.hid (rolls w)
  have hR := fun w hA => Lib.hid (rollRoot_yes A c l w hg hc hA _ rfl)
  have hI := fun w hA => Lib.hid (rollIn_no A c l i w hm hl hA _ rfl h0)
  generalize inErr l i = r at *
  generalize rhash l = x at *
  have h2 := fun w g hg => Lib.hid (goods2 0 r w g 25 hg false (by rw [beq_eq_false_iff_ne.2 h0]; rfl))
  clear hm hl h0 hg hc
  go_enter Try.func6, Try.ntmps6
  go_wp2_with fail
  refine (hL _).out.mono ?_
  rintro e w1 ⟨rfl, hb1⟩
  have hA1 := hA.below hb1
  clear hL hA
  go_wp2_with fail
  refine (hR _ hA1).out.mono ?_
  rintro e w2 ⟨rfl, hb2⟩
  have hA2 := hA1.below hb2
  have hb02 := below_chain hb1 hb2
  clear hR hA1 hb1 hb2
  go_wp2_with fail
  refine (hI _ hA2).out.mono ?_
  rintro e w3 ⟨rfl, hw⟩
  subst hw
  clear hI hA2
  go_wp2_with fail
  refine (h2 _ _ rfl).out.mono ?_
  rintro e w3 ⟨rfl, hw⟩
  subst hw
  go_wp2
  go_ret
  exact ⟨rfl, hb02.alloc hb02.size _⟩

/- The cases behind the tests on the log. -/
set_option maxHeartbeats 4000000 in
theorem binds_same (A : Option Addr) (c : Nat) (l : List Bytes) (i : Nat) (t : Bytes) (B : Option Addr) (d : Nat) (p : List Nat) (w : World) (hc : l.length ≤ c) (hA : Row w A (scells l)) (hg : RGood l) (hi : i < l.length) (he : t = l[i]) :
    Calls Try.prog 6 #[.slice A l.length c, .int .i64 (i : Int), .string (S t), .slice B p.length d] w fun e w' => e = .returned (.bool true) ∧ Below w.heap.size w w' := by
  have hL := fun w => Lib.hid (rolls w)
  have hR := fun w hA => Lib.hid (rollRoot_yes A c l w hg hc hA _ rfl)
  have hI := fun w hA => Lib.hid (rollIn_yes A c l i w hg hc hi hA)
  have h2 := fun w g hg => Lib.hid (goods2 0 0 w g 25 hg true rfl)
  have hle := hg.le
  have i0 : (0 : Int) ≤ (i : Int) := by omega
  have i1 : (i : Int) < (l.length : Int) := by omega
  obtain ⟨g, off, hAa, j0⟩ := hA.strR i hi
  subst hAa
  subst he
  generalize l[i] = u at *
  generalize inn l i = L at *
  generalize rhash l = x at *
  have c1 : (u == u) = true := beq_self_eq_true u
  clear hg hc hle hi
  go_enter Try.func6, Try.ntmps6
  go_wp2_with fail
  refine (hL _).out.mono ?_
  rintro e w1 ⟨rfl, hb1⟩
  have hA1 := hA.below hb1
  clear hL hA
  go_wp2_with fail
  refine (hR _ hA1).out.mono ?_
  rintro e w2 ⟨rfl, hb2⟩
  have hA2 := hA1.below hb2
  have hb02 := below_chain hb1 hb2
  clear hR hA1 hb1 hb2
  go_wp2_with fail
  refine (hI _ hA2).out.mono ?_
  rintro e w3 ⟨D, dd, rfl, hown, hb3⟩
  have hb03 := (below_chain hb02 hb3)
  have hb04 := hb03.alloc hb03.size (.cells #[.int .i64 0, .int .i64 0] 25)
  have hD4 := (Row.own hown).alloc (.cells #[.int .i64 0, .int .i64 0] 25)
  have j4 := kept j0 hb04
  clear hI hA2 hb02 hb3 hown hb03
  go_wp2_with fail
  refine (h2 _ _ rfl).out.mono ?_
  rintro e w4 ⟨rfl, hw⟩
  subst hw
  clear h2
  generalize w3.alloc (.cells #[.int .i64 0, .int .i64 0] 25) = w4 at *
  clear hD4
  go_wp2
  go_ret
  exact ⟨rfl, hb04⟩

set_option maxHeartbeats 4000000 in
theorem binds_long (A : Option Addr) (c : Nat) (l : List Bytes) (i : Nat) (t : Bytes) (B : Option Addr) (d : Nat) (p : List Nat) (w : World) (hc : l.length ≤ c) (hA : Row w A (scells l)) (hg : RGood l) (hi : i < l.length) (ht : t.length ≤ maxLen) (h40 : 40 < t.length) :
    Calls Try.prog 6 #[.slice A l.length c, .int .i64 (i : Int), .string (S t), .slice B p.length d] w fun e w' => e = .returned (.bool true) ∧ Below w.heap.size w w' := by
  have hL := fun w => Lib.hid (rolls w)
  have hR := fun w hA => Lib.hid (rollRoot_yes A c l w hg hc hA _ rfl)
  have hI := fun w hA => Lib.hid (rollIn_yes A c l i w hg hc hi hA)
  have h2 := fun w g hg => Lib.hid (goods2 0 0 w g 25 hg true rfl)
  have hle := hg.le
  have i0 : (0 : Int) ≤ (i : Int) := by omega
  have i1 : (i : Int) < (l.length : Int) := by omega
  obtain ⟨g, off, hAa, j0⟩ := hA.strR i hi
  subst hAa
  have hV := fun x w => Lib.hid (rollIsIn_no x (l.length : Int) (i : Int) t B p.length d w ht 2 (by unfold isErr; rw [if_neg (by have := hg.pos; omega), if_pos h40]) (by decide))
  have c1 : (t == l[i]) = false := by
    rw [beq_eq_false_iff_ne]
    rintro rfl
    have := hg.each _ (List.getElem_mem hi)
    omega
  generalize l[i] = u at *
  generalize inn l i = L at *
  generalize rhash l = x at *
  clear hg hc hle hi ht h40
  go_enter Try.func6, Try.ntmps6
  go_wp2_with fail
  refine (hL _).out.mono ?_
  rintro e w1 ⟨rfl, hb1⟩
  have hA1 := hA.below hb1
  clear hL hA
  go_wp2_with fail
  refine (hR _ hA1).out.mono ?_
  rintro e w2 ⟨rfl, hb2⟩
  have hA2 := hA1.below hb2
  have hb02 := below_chain hb1 hb2
  clear hR hA1 hb1 hb2
  go_wp2_with fail
  refine (hI _ hA2).out.mono ?_
  rintro e w3 ⟨D, dd, rfl, hown, hb3⟩
  have hb03 := (below_chain hb02 hb3)
  have hb04 := hb03.alloc hb03.size (.cells #[.int .i64 0, .int .i64 0] 25)
  have hD4 := (Row.own hown).alloc (.cells #[.int .i64 0, .int .i64 0] 25)
  have j4 := kept j0 hb04
  clear hI hA2 hb02 hb3 hown hb03
  go_wp2_with fail
  refine (h2 _ _ rfl).out.mono ?_
  rintro e w4 ⟨rfl, hw⟩
  subst hw
  clear h2
  generalize w3.alloc (.cells #[.int .i64 0, .int .i64 0] 25) = w4 at *
  clear hD4
  go_wp2_with fail
  refine (hV x _).out.mono ?_
  rintro e w5 ⟨rfl, hw⟩
  subst hw
  go_wp2
  go_ret
  exact ⟨rfl, hb04⟩

set_option maxHeartbeats 4000000 in
theorem binds_no (A : Option Addr) (c : Nat) (l : List Bytes) (i : Nat) (t : Bytes) (B : Option Addr) (d : Nat) (p : List Nat) (w : World) (hc : l.length ≤ c) (hA : Row w A (scells l)) (hp : ∀ z ∈ p, z < 18446744073709551616) (hd : p.length ≤ d) (hdm : d ≤ maxLen) (hB : Row w B (mcells p)) (hg : RGood l) (hi : i < l.length) (h40 : t.length ≤ 40) (hne : t ≠ l[i]) (hno : isAns (rhash l) l.length i t p = false) :
    Calls Try.prog 6 #[.slice A l.length c, .int .i64 (i : Int), .string (S t), .slice B p.length d] w fun e w' => e = .returned (.bool true) ∧ Below w.heap.size w w' := by
  have hL := fun w => Lib.hid (rolls w)
  have hR := fun w hA => Lib.hid (rollRoot_yes A c l w hg hc hA _ rfl)
  have hI := fun w hA => Lib.hid (rollIn_yes A c l i w hg hc hi hA)
  have h2 := fun w g hg => Lib.hid (goods2 0 0 w g 25 hg true rfl)
  have hle := hg.le
  have i0 : (0 : Int) ≤ (i : Int) := by omega
  have i1 : (i : Int) < (l.length : Int) := by omega
  obtain ⟨g, off, hAa, j0⟩ := hA.strR i hi
  subst hAa
  have hV := fun w hB => Lib.hid (rollIsIn_yes (rhash l) l.length i t p B d p.length w hg.pos hle hi h40 hp rfl hd hdm hB false hno)
  have c1 : (t == l[i]) = false := beq_eq_false_iff_ne.2 hne
  generalize l[i] = u at *
  generalize inn l i = L at *
  generalize rhash l = x at *
  clear hg hc hle hi hne hno h40 hp
  go_enter Try.func6, Try.ntmps6
  go_wp2_with fail
  refine (hL _).out.mono ?_
  rintro e w1 ⟨rfl, hb1⟩
  have hA1 := hA.below hb1
  clear hL hA
  go_wp2_with fail
  refine (hR _ hA1).out.mono ?_
  rintro e w2 ⟨rfl, hb2⟩
  have hA2 := hA1.below hb2
  have hb02 := below_chain hb1 hb2
  clear hR hA1 hb1 hb2
  go_wp2_with fail
  refine (hI _ hA2).out.mono ?_
  rintro e w3 ⟨D, dd, rfl, hown, hb3⟩
  have hb03 := (below_chain hb02 hb3)
  have hb04 := hb03.alloc hb03.size (.cells #[.int .i64 0, .int .i64 0] 25)
  have hD4 := (Row.own hown).alloc (.cells #[.int .i64 0, .int .i64 0] 25)
  have j4 := kept j0 hb04
  clear hI hA2 hb02 hb3 hown hb03
  go_wp2_with fail
  refine (h2 _ _ rfl).out.mono ?_
  rintro e w4 ⟨rfl, hw⟩
  subst hw
  clear h2
  generalize w3.alloc (.cells #[.int .i64 0, .int .i64 0] 25) = w4 at *
  clear hD4
  have hB4 := hB.below hb04
  go_wp2_with fail
  refine (hV _ hB4).out.mono ?_
  rintro e w5 ⟨rfl, hb5⟩
  go_wp2
  go_ret
  exact ⟨rfl, below_chain hb04 hb5⟩

set_option maxHeartbeats 4000000 in
theorem binds_yes (A : Option Addr) (c : Nat) (l : List Bytes) (i : Nat) (t : Bytes) (B : Option Addr) (d : Nat) (p : List Nat) (w : World) (hc : l.length ≤ c) (hA : Row w A (scells l)) (hp : ∀ z ∈ p, z < 18446744073709551616) (hd : p.length ≤ d) (hdm : d ≤ maxLen) (hB : Row w B (mcells p)) (hg : RGood l) (hi : i < l.length) (h40 : t.length ≤ 40) (hne : t ≠ l[i]) (hyes : isAns (rhash l) l.length i t p = true) :
    Calls Try.prog 6 #[.slice A l.length c, .int .i64 (i : Int), .string (S t), .slice B p.length d] w fun e w' => e = .returned (.bool true) ∧ Below w.heap.size w w' := by
  have hL := fun w => Lib.hid (rolls w)
  have hR := fun w hA => Lib.hid (rollRoot_yes A c l w hg hc hA _ rfl)
  have hI := fun w hA => Lib.hid (rollIn_yes A c l i w hg hc hi hA)
  have h2 := fun w g hg => Lib.hid (goods2 0 0 w g 25 hg true rfl)
  have hle := hg.le
  have i0 : (0 : Int) ≤ (i : Int) := by omega
  have i1 : (i : Int) < (l.length : Int) := by omega
  obtain ⟨g, off, hAa, j0⟩ := hA.strR i hi
  subst hAa
  have hV := fun w hB => Lib.hid (rollIsIn_yes (rhash l) l.length i t p B d p.length w hg.pos hle hi h40 hp rfl hd hdm hB true hyes)
  have c1 : (t == l[i]) = false := beq_eq_false_iff_ne.2 hne
  have hu40 := hg.each _ (List.getElem_mem hi)
  have hil := inn_length l i
  have hroot := inn_right_root l i hi
  have hpl : p.length = (sides l.length i).length := by
    unfold isAns at hyes
    rw [Bool.and_eq_true] at hyes
    exact beq_iff_eq.1 hyes.1
  have hroot2 : mk (Hash.of (4 :: t)) (sides l.length i) p = rhash l := by
    unfold isAns at hyes
    rw [Bool.and_eq_true] at hyes
    exact beq_iff_eq.1 hyes.2
  have hSa := fun (D : Option Addr) (dd : Nat) (w : World) hD => Lib.hid (keepSaid l.length i l[i] (inn l i) D dd w hg.pos hle hi hu40 (inn_lt l i) hD hil)
  have hSb := fun (w : World) hB => Lib.hid (keepSaid l.length i t p B d w hg.pos hle hi h40 hp hB hpl)
  have HC : Hid (¬ ∀ k, k ≤ (inn l i).length → alikeB (sdAt l[i] (sides l.length i) (inn l i) k) (sdAt t (sides l.length i) p k) = false) := by
    intro hall
    exact hne (same_start l[i] t (sides l.length i) (inn l i) p hil.symm hpl.symm (inn_lt l i) hp (by rw [hroot, hroot2]) hall).symm
  have hlen : p.length = (inn l i).length := by rw [hpl, hil]
  have hXa := fun k => Lib.hid (sdAt_length l[i] (sides l.length i) (inn l i) k hu40)
  have hXb := fun k => Lib.hid (sdAt_length t (sides l.length i) p k h40)
  have hLl := Nat.le_trans (inn_le l i) hle
  generalize l[i] = u at *
  generalize inn l i = L at *
  generalize rhash l = x at *
  generalize sides l.length i = s at *
  have HSa := fun k hk => Lib.hid (saids_at u s L L.length k hk)
  have HSb := fun k hk => Lib.hid (saids_at t s p p.length k hk)
  have HLa := saids_length u s L L.length
  have HLb := saids_length t s p p.length
  have cl : ((p.length : Int) != (L.length : Int)) = false := by simp [hlen]
  have hab : (saids u s L L.length).length ≤ (saids t s p p.length).length := by omega
  have hal : (saids u s L L.length).length ≤ 41 := by omega
  have HFL := Lib.hid HLa
  have hlb : (saids t s p p.length).length ≤ 9223372036854775807 := by omega
  have hPL : p.length ≤ 40 := by omega
  clear hg hc hle hne hyes hp hd hdm h40 hu40 hil hroot hroot2 hpl hlen HLa HLb
  go_enter Try.func6, Try.ntmps6
  go_wp2_with fail
  refine (hL _).out.mono ?_
  rintro e w1 ⟨rfl, hb1⟩
  have hA1 := hA.below hb1
  clear hL hA
  go_wp2_with fail
  refine (hR _ hA1).out.mono ?_
  rintro e w2 ⟨rfl, hb2⟩
  have hA2 := hA1.below hb2
  have hb02 := below_chain hb1 hb2
  clear hR hA1 hb1 hb2
  go_wp2_with fail
  refine (hI _ hA2).out.mono ?_
  rintro e w3 ⟨D, dd, rfl, hown, hb3⟩
  have hb03 := (below_chain hb02 hb3)
  have hb04 := hb03.alloc hb03.size (.cells #[.int .i64 0, .int .i64 0] 25)
  have hD4 := (Row.own hown).alloc (.cells #[.int .i64 0, .int .i64 0] 25)
  have j4 := kept j0 hb04
  clear hI hA2 hb02 hb3 hown hb03
  go_wp2_with fail
  refine (h2 _ _ rfl).out.mono ?_
  rintro e w4 ⟨rfl, hw⟩
  subst hw
  clear h2
  generalize w3.alloc (.cells #[.int .i64 0, .int .i64 0] 25) = w4 at *
  have hB4 := hB.below hb04
  go_wp2_with fail
  refine (hV _ hB4).out.mono ?_
  rintro e w5 ⟨rfl, hb5⟩
  have hB5 := hB4.below hb5
  have hD5 := hD4.below hb5
  have hb05 := below_chain hb04 hb5
  have j5 := kept j4 hb5
  clear hV hB4 hD4 hb5 hb04 j4 hB
  go_wp2_with fail
  refine (hSa D dd _ hD5).out.mono ?_
  rintro e w6 ⟨E, ee, rfl, hE6, hb6⟩
  have hB6 := hB5.below hb6
  have hb06 := below_chain hb05 hb6
  clear hSa hD5 hB5 hb05 hb6 j5
  go_wp2_with fail
  refine (hSb _ hB6).out.mono ?_
  rintro e w7 ⟨F, ff, rfl, hF7, hb7⟩
  have hE7 := hE6.below hb7
  have hb07 := below_chain hb06 hb7
  clear hSb hB6 hE6 hb06 hb7
  generalize saids u s L L.length = M at *
  generalize saids t s p p.length = N at *
  go_wp2
  go_loopw [88] (fun iv wz => ∃ (k m : Nat), k ≤ M.length ∧ iv = .int .i64 (k : Int) ∧ Hid (∀ j, j < k → alikeB (sdAt u s L j) (sdAt t s p j) = false) ∧ wz = w7.drewN m) (fun iv _ => M.length - (intOf iv).toNat)
  case atStart => exact ⟨0, 0, Nat.zero_le _, rfl, fun j hj => absurd hj (Nat.not_lt_zero _), rfl⟩
  case round =>
    obtain ⟨k, m, hkl, rfl, HN, hwz⟩ := hrel
    have hE8 : Row wr E (scells M) := by rw [hwz]; exact hE7.drewN m
    have hF8 : Row wr F (scells N) := by rw [hwz]; exact hF7.drewN m
    have HW := Lib.hid hwz
    clear hwz
    by_cases hlt : k < M.length
    · obtain ⟨g1, off1, hEa, j1⟩ := hE8.strR k hlt
      have hlt2 : k < N.length := by omega
      obtain ⟨g2, off2, hFa, j2⟩ := hF8.strR k hlt2
      subst hEa
      subst hFa
      rw [(HSa k hlt).out] at j1
      rw [(HSb k hlt2).out] at j2
      have ha := (hXa k).out
      have hb := (hXb k).out
      have HNk : Hid (alikeB (sdAt u s L k) (sdAt t s p k) = false → ∀ j, j < k + 1 → alikeB (sdAt u s L j) (sdAt t s p j) = false) := by
        show _ → _
        intro h j hj
        rcases Nat.lt_or_ge j k with h1 | h1
        · exact HN.out j h1
        · obtain rfl : j = k := by omega
          exact h
      obtain ⟨q, hq⟩ : ∃ q, alikeB (sdAt u s L k) (sdAt t s p k) = q := ⟨_, rfl⟩
      have hQ := fun w => Lib.hid (markAlike (sdAt u s L k) (sdAt t s p k) w (by unfold maxLen; omega) (by unfold maxLen; omega) q hq)
      rw [hq] at HNk
      generalize sdAt u s L k = a1 at *
      generalize sdAt t s p k = b1 at *
      have k0 : (0 : Int) ≤ (k : Int) := by omega
      have k1 : (k : Int) < (M.length : Int) := by omega
      have k2 : (k : Int) < (N.length : Int) := by omega
      clear hq HSa HSb HC hXa hXb HN hE7 hF7 hE8 hF8 HFL ha hb
      cases q with
      | true =>
        clear HNk
        go_wp2
        go_quiet (first | (go_at_call 24; refine Calls.quiet_of ((hQ _).out)))
        go_wp2
        go_ret
        exact ⟨rfl, by rw [HW.out]; exact below_drewN (below_drewN hb07 _) _⟩
      | false =>
        have HN' := Lib.hid (HNk.out rfl)
        clear HNk
        go_wp2
        go_quiet (first | (go_at_call 24; refine Calls.quiet_of ((hQ _).out)))
        go_wp2
        go_roundw
        case rel => exact ⟨k + 1, _, by omega, by go_num, HN', by rw [HW.out, World.drewN_drewN]⟩
        case measure => simp [intOf]; omega
    · exact absurd (fun j hj => HN.out j (by have := HFL.out; omega)) HC.out

theorem rollBinds_walk (A : Option Addr) (c : Nat) (l : List Bytes) (i : Int) (t : Bytes) (B : Option Addr) (d : Nat) (p : List Nat) (w : World) (hm : l.length ≤ maxLen) (hl : ∀ s ∈ l, s.length ≤ maxLen) (hc : l.length ≤ c) (hA : Row w A (scells l)) (ht : t.length ≤ maxLen) (hp : ∀ z ∈ p, z < 18446744073709551616) (hd : p.length ≤ d) (hdm : d ≤ maxLen) (hB : Row w B (mcells p)) :
    Calls Try.prog 6 #[.slice A l.length c, .int .i64 i, .string (S t), .slice B p.length d] w fun e w' => e = .returned (.bool true) ∧ Below w.heap.size w w' := by
  by_cases hf : rfault l = 0
  · have hg := (rfault_ok l).1 hf
    by_cases h0 : inErr l i = 0
    · obtain ⟨-, h1, h2⟩ := (inErr_ok l i).1 h0
      obtain ⟨i, rfl⟩ : ∃ j : Nat, i = (j : Int) := ⟨i.toNat, by omega⟩
      have hi : i < l.length := by omega
      by_cases he : t = l[i]
      · exact binds_same A c l i t B d p w hc hA hg hi he
      · by_cases h40 : 40 < t.length
        · exact binds_long A c l i t B d p w hc hA hg hi ht h40
        · cases hu : isAns (rhash l) l.length i t p with
          | false => exact binds_no A c l i t B d p w hc hA hp hd hdm hB hg hi (by omega) he hu
          | true => exact binds_yes A c l i t B d p w hc hA hp hd hdm hB hg hi (by omega) he hu
    · exact binds_range A c l i t B p.length d w hm hl hc hA hg h0
  · exact binds_fault A c l i t B p.length d w hm hl hA hf

set_option maxRecDepth 100000 in
theorem rollBinds_lifted (os : Os) (started : os.Started) (H : Type) (enc : TypeId × Value → H) :
    ReturnsInHanded {} Try.checked os 6 .any (Rows.rollBindsSpec.pre6 enc Try.prog Try.f6 Rows.rollBindsRow.domain false) (Rows.rollBindsSpec.post enc Try.prog Try.f6 false true false false) := by
  refine returnsInHanded_of_change (C := Try.checked) own started (by kernel_rfl) Try.func6
    (ChangeSpec.witness6 (enc := enc) (C := Try.checked) false ⟨#[], #[.slice none 0 0, .int .i64 0, .string ⟨#[]⟩, .slice none 0 0], []⟩ 8 (by kernel_rfl) (by kernel_rfl) (by kernel_rfl) (by kernel_rfl)) ?_
  intro W base args ds gs before hval0 hW hcnd _
  have hval : ∀ (j : Nat) t v, Try.f6.params[j]? = some t → args[j]? = some v → Value.okWide Try.prog W .any base t v := hval0
  have hW' := hW
  obtain ⟨p, q, hA0, hV, rfl, hfz, hnd⟩ := hW
  have hA : DataW.TrodAll enc Try.prog W 0 (fun _ => true) true Try.f6.params.toList args.toList ds p := hA0
  rw [Try.params6] at hA hval
  obtain ⟨v0, vs0, d0, ds0, p0, q0, hargs, rfl, rfl, h0, r0⟩ := trodAll_cons hA
  obtain ⟨v1, vs1, d1, ds1, p1, q1, rfl, rfl, rfl, h1, r1⟩ := trodAll_cons r0
  obtain ⟨v2, vs2, d2, ds2, p2, q2, rfl, rfl, rfl, h2, r2⟩ := trodAll_cons r1
  obtain ⟨v3, vs3, d3, ds3, p3, q3, rfl, rfl, rfl, h3, r3⟩ := trodAll_cons r2
  obtain ⟨rfl, rfl, rfl⟩ := trodAll_nil r3
  obtain rfl : args = #[v0, v1, v2, v3] := by cases args; simp_all
  obtain ⟨rfl, rfl⟩ := trodVars_none hV
  obtain ⟨A0, c0, s0, rfl, hm0, hr0, hs0, hc0⟩ := arg_strsC (hval 0 22 v0 rfl rfl) h0
  obtain ⟨x1, rfl, hx1, hy1⟩ := arg_i64 (hval 1 3 v1 rfl rfl) h1
  obtain ⟨l2, rfl, hl2⟩ := arg_str (hval 2 9 v2 rfl rfl) h2
  obtain ⟨A3, c3, s3, rfl, hm3, hr3, hs3, hc3, hx3⟩ := arg_marksC (hval 3 24 v3 rfl rfl) h3
  refine (rollBinds_walk A0 c0 s0 x1 l2 A3 c3 s3 _ hm0 hs0 hc0 hr0 hl2 hs3 hc3 hx3 hr3).mono fun e W' ⟨he, hb⟩ => ?_
  subst he
  exact ⟨_, rfl, post_law laidOut (by decide +kernel) rfl Try.underlying4 (by kernel_rfl) hW' rfl hb⟩

/-- The statement. -/
theorem rollBinds_said : Rows.RollBindsSaid :=
  OpenClaim.holds_of_wide 6 Try.f6 rfl rfl rfl rfl rfl rfl rfl ⟨rfl, rfl, rfl, rfl, rfl⟩ rfl rfl rfl rfl rfl (by kernel_rfl) Try.func6 (by kernel_rfl)
    (of_decide_eq_true (by kernel_rfl)) (by unfold Func.isWrapper; first | (rw [if_pos (by decide +kernel)]; kernel_rfl) | (rw [if_neg (by decide +kernel)]; exact ⟨rfl, rfl⟩))
    (fun os started H enc _ => rollBinds_lifted os started H enc)
#print axioms rollBinds_said
end Go.Proofs.Ytlobpjpkldmnaaa
