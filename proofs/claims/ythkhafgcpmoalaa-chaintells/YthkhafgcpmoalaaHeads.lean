/- Heads: a number, a root, the hash of the one before, a time. The reference's HeadFault, HeadSaid, HeadMark and Links. They write nothing that was there. -/
import Derived.Test.YthkhafgcpmoalaaNum
import Derived.Test.YthkhafgcpmoalaaSaid
import Derived.Test.YthkhafgcpmoalaaRefMark
import Derived.Deep.RegionHeld3
namespace Go.Proofs.Ythkhafgcpmoalaa
set_option maxRecDepth 100000
open Go.RowKit

/-- A head: its epoch, root, previous hash and time. -/
abbrev Hd := Int × Nat × Nat × Int
def hval (h : Hd) : Value := .agg #[.int .i64 h.1, .int .u64 (h.2.1 : Int), .int .u64 (h.2.2.1 : Int), .int .i64 h.2.2.2]
def hfault (h : Hd) : Int :=
  if h.1 < 0 then 4 else if 1000000 < h.1 then 4 else if 2305843009213693951 ≤ h.2.1 then 4 else if 2305843009213693951 ≤ h.2.2.1 then 4 else if h.2.2.2 < 0 then 4 else if 1000000000 < h.2.2.2 then 4 else
    if h.1 = 0 then (if h.2.2.1 = 0 then 0 else 3) else 0
structure HGood (h : Hd) : Prop where
  e0 : 0 ≤ h.1
  e1 : h.1 ≤ 1000000
  r : h.2.1 < 2305843009213693951
  p : h.2.2.1 < 2305843009213693951
  t0 : 0 ≤ h.2.2.2
  t1 : h.2.2.2 ≤ 1000000000
  z : h.1 = 0 → h.2.2.1 = 0
theorem hfault_ok (h : Hd) : hfault h = 0 ↔ HGood h := by
  unfold hfault
  constructor
  · intro e
    by_cases h1 : h.1 < 0
    · rw [if_pos h1] at e; exact absurd e (by decide)
    rw [if_neg h1] at e
    by_cases h2 : 1000000 < h.1
    · rw [if_pos h2] at e; exact absurd e (by decide)
    rw [if_neg h2] at e
    by_cases h3 : 2305843009213693951 ≤ h.2.1
    · rw [if_pos h3] at e; exact absurd e (by decide)
    rw [if_neg h3] at e
    by_cases h4 : 2305843009213693951 ≤ h.2.2.1
    · rw [if_pos h4] at e; exact absurd e (by decide)
    rw [if_neg h4] at e
    by_cases h5 : h.2.2.2 < 0
    · rw [if_pos h5] at e; exact absurd e (by decide)
    rw [if_neg h5] at e
    by_cases h6 : 1000000000 < h.2.2.2
    · rw [if_pos h6] at e; exact absurd e (by decide)
    rw [if_neg h6] at e
    refine ⟨by omega, by omega, by omega, by omega, by omega, by omega, fun hz => ?_⟩
    rw [if_pos hz] at e
    by_cases h7 : h.2.2.1 = 0
    · exact h7
    · rw [if_neg h7] at e; exact absurd e (by decide)
  · rintro ⟨e0, e1, r, p, t0, t1, z⟩
    rw [if_neg (by omega), if_neg (by omega), if_neg (by omega), if_neg (by omega), if_neg (by omega), if_neg (by omega)]
    by_cases hz : h.1 = 0
    · rw [if_pos hz, if_pos (z hz)]
    · rw [if_neg hz]
def hsaid (h : Hd) : Bytes := 3 :: (be8 h.1.toNat ++ be8 h.2.1 ++ be8 h.2.2.1 ++ be8 h.2.2.2.toNat)
def hmark (h : Hd) : Nat := Hash.of (hsaid h)
theorem hsaid_length (h : Hd) : (hsaid h).length = 33 := by
  unfold hsaid
  rw [List.length_cons, List.length_append, List.length_append, List.length_append, be8_length, be8_length, be8_length, be8_length]
theorem hsaid_le (h : Hd) : (hsaid h).length ≤ maxLen := by rw [hsaid_length]; unfold maxLen; omega
def links (h g : Hd) : Bool := decide (hfault h = 0) && decide (hfault g = 0) && decide (g.1 = h.1 + 1) && decide (g.2.2.1 = hmark h) && decide (h.2.2.2 ≤ g.2.2.2)

set_option maxHeartbeats 2000000 in
theorem refHFault (ep : Int) (rt pv : Nat) (tm : Int) (w : World) (r : Int) (hr : hfault (ep, rt, pv, tm) = r) :
    Calls Try.prog 13 #[.agg #[.int .i64 ep, .int .u64 (rt : Int), .int .u64 (pv : Int), .int .i64 tm]] w fun e w' => e = .returned (.int .i64 r) ∧ Below w.heap.size w w' := by
  unfold hfault at hr
  by_cases h0 : ep < 0
  · rw [if_pos h0] at hr
    have c0 : decide (ep < (0 : Int)) = true := decide_eq_true (by omega)
    clear h0
    subst hr
    go_enter Try.func13, Try.ntmps13
    go_wp2
    go_ret
    exact ⟨rfl, (Below.refl _ _).alloc (Nat.le_refl _) _⟩
  rw [if_neg h0] at hr
  have c0 : decide (ep < (0 : Int)) = false := decide_eq_false (by omega)
  clear h0
  by_cases h1 : 1000000 < ep
  · rw [if_pos h1] at hr
    have c1 : decide ((1000000 : Int) < ep) = true := decide_eq_true (by omega)
    clear h1
    subst hr
    go_enter Try.func13, Try.ntmps13
    go_wp2
    go_ret
    exact ⟨rfl, (Below.refl _ _).alloc (Nat.le_refl _) _⟩
  rw [if_neg h1] at hr
  have c1 : decide ((1000000 : Int) < ep) = false := decide_eq_false (by omega)
  clear h1
  by_cases h2 : 2305843009213693951 ≤ rt
  · rw [if_pos h2] at hr
    have c2 : decide ((2305843009213693951 : Int) ≤ (rt : Int)) = true := decide_eq_true (by omega)
    clear h2
    subst hr
    go_enter Try.func13, Try.ntmps13
    go_wp2
    go_ret
    exact ⟨rfl, (Below.refl _ _).alloc (Nat.le_refl _) _⟩
  rw [if_neg h2] at hr
  have c2 : decide ((2305843009213693951 : Int) ≤ (rt : Int)) = false := decide_eq_false (by omega)
  clear h2
  by_cases h3 : 2305843009213693951 ≤ pv
  · rw [if_pos h3] at hr
    have c3 : decide ((2305843009213693951 : Int) ≤ (pv : Int)) = true := decide_eq_true (by omega)
    clear h3
    subst hr
    go_enter Try.func13, Try.ntmps13
    go_wp2
    go_ret
    exact ⟨rfl, (Below.refl _ _).alloc (Nat.le_refl _) _⟩
  rw [if_neg h3] at hr
  have c3 : decide ((2305843009213693951 : Int) ≤ (pv : Int)) = false := decide_eq_false (by omega)
  clear h3
  by_cases h4 : tm < 0
  · rw [if_pos h4] at hr
    have c4 : decide (tm < (0 : Int)) = true := decide_eq_true (by omega)
    clear h4
    subst hr
    go_enter Try.func13, Try.ntmps13
    go_wp2
    go_ret
    exact ⟨rfl, (Below.refl _ _).alloc (Nat.le_refl _) _⟩
  rw [if_neg h4] at hr
  have c4 : decide (tm < (0 : Int)) = false := decide_eq_false (by omega)
  clear h4
  by_cases h5 : 1000000000 < tm
  · rw [if_pos h5] at hr
    have c5 : decide ((1000000000 : Int) < tm) = true := decide_eq_true (by omega)
    clear h5
    subst hr
    go_enter Try.func13, Try.ntmps13
    go_wp2
    go_ret
    exact ⟨rfl, (Below.refl _ _).alloc (Nat.le_refl _) _⟩
  rw [if_neg h5] at hr
  have c5 : decide ((1000000000 : Int) < tm) = false := decide_eq_false (by omega)
  clear h5
  by_cases h6 : ep = 0
  · rw [if_pos h6] at hr
    have c6 : (ep == (0 : Int)) = true := beq_iff_eq.2 h6
    by_cases h7 : pv = 0
    · rw [if_pos h7] at hr
      have c7 : ((pv : Int) == (0 : Int)) = true := beq_iff_eq.2 (by omega)
      clear h6 h7
      subst hr
      go_enter Try.func13, Try.ntmps13
      go_wp2
      go_ret
      exact ⟨rfl, (Below.refl _ _).alloc (Nat.le_refl _) _⟩
    · rw [if_neg h7] at hr
      have c7 : ((pv : Int) == (0 : Int)) = false := beq_eq_false_iff_ne.2 (by omega)
      clear h6 h7
      subst hr
      go_enter Try.func13, Try.ntmps13
      go_wp2
      go_ret
      exact ⟨rfl, (Below.refl _ _).alloc (Nat.le_refl _) _⟩
  · rw [if_neg h6] at hr
    have c6 : (ep == (0 : Int)) = false := beq_eq_false_iff_ne.2 h6
    clear h6
    subst hr
    go_enter Try.func13, Try.ntmps13
    go_wp2
    go_ret
    exact ⟨rfl, (Below.refl _ _).alloc (Nat.le_refl _) _⟩

/-- A head in its box. -/
structure HBox (w : World) (g : Nat) (ep : Int) (rt pv : Nat) (tm : Int) : Prop where
  h0 : w.cell? ⟨g, 0, none⟩ = some (.int .i64 ep)
  h1 : w.cell? ⟨g, 1, none⟩ = some (.int .u64 (rt : Int))
  h2 : w.cell? ⟨g, 2, none⟩ = some (.int .u64 (pv : Int))
  h3 : w.cell? ⟨g, 3, none⟩ = some (.int .i64 tm)
theorem HBox.below {w w' : World} {g : Nat} {ep : Int} {rt pv : Nat} {tm : Int} (h : HBox w g ep rt pv tm) (hb : Below w.heap.size w w') : HBox w' g ep rt pv tm := ⟨kept h.h0 hb, kept h.h1 hb, kept h.h2 hb, kept h.h3 hb⟩
theorem HBox.alloc {w : World} {g : Nat} {ep : Int} {rt pv : Nat} {tm : Int} (h : HBox w g ep rt pv tm) (o : Obj) : HBox (w.alloc o) g ep rt pv tm := h.below ((Below.refl _ _).alloc (Nat.le_refl _) o)
theorem HBox.new (w : World) (ep : Int) (rt pv : Nat) (tm : Int) (t : TypeId) : HBox (w.alloc (.cells #[.int .i64 ep, .int .u64 (rt : Int), .int .u64 (pv : Int), .int .i64 tm] t)) w.heap.size ep rt pv tm :=
  ⟨by rw [World.cell?_alloc_new]; rfl, by rw [World.cell?_alloc_new]; rfl, by rw [World.cell?_alloc_new]; rfl, by rw [World.cell?_alloc_new]; rfl⟩

set_option maxHeartbeats 4000000 in
theorem refHSaid (ep rt pv tm : Nat) (w : World) (he : ep < 9223372036854775808) (hrt : rt < 18446744073709551616) (hpv : pv < 18446744073709551616) (htm : tm < 9223372036854775808) (s : Bytes) (hs : hsaid ((ep : Int), rt, pv, (tm : Int)) = s) :
    Calls Try.prog 23 #[.agg #[.int .i64 (ep : Int), .int .u64 (rt : Int), .int .u64 (pv : Int), .int .i64 (tm : Int)]] w fun e w' => e = .returned (.string (S s)) ∧ Below w.heap.size w w' := by
  have hN : ∀ x : Nat, x < 18446744073709551616 → ∀ W : World, (W.cell? ⟨w.heap.size, 0, none⟩ = some (.int .i64 (ep : Int)) ∧ W.cell? ⟨w.heap.size, 1, none⟩ = some (.int .u64 (rt : Int)) ∧ W.cell? ⟨w.heap.size, 2, none⟩ = some (.int .u64 (pv : Int)) ∧ W.cell? ⟨w.heap.size, 3, none⟩ = some (.int .i64 (tm : Int)) ∧ Below w.heap.size w W) → Hid (Calls Try.prog 39 #[.int .u64 (x : Int)] W fun e w' => e = .returned (.string (S (be8 x))) ∧ w'.cell? ⟨w.heap.size, 0, none⟩ = some (.int .i64 (ep : Int)) ∧ w'.cell? ⟨w.heap.size, 1, none⟩ = some (.int .u64 (rt : Int)) ∧ w'.cell? ⟨w.heap.size, 2, none⟩ = some (.int .u64 (pv : Int)) ∧ w'.cell? ⟨w.heap.size, 3, none⟩ = some (.int .i64 (tm : Int)) ∧ Below w.heap.size w w') := fun x hx W h => by
    show Calls _ _ _ _ _
    refine (refNum_any x W hx).mono ?_
    rintro e w' ⟨rfl, hb⟩
    exact ⟨rfl, kept h.1 hb, kept h.2.1 hb, kept h.2.2.1 hb, kept h.2.2.2.1 hb, below_chain h.2.2.2.2 hb⟩
  have hN1 := hN ep (by omega)
  have hN2 := hN rt hrt
  have hN3 := hN pv hpv
  have hN4 := hN tm (by omega)
  have u1 : IntKind.u64.wrap (ep : Int) = (ep : Int) := by rw [IntKind.wrap_u64]; omega
  have u4 : IntKind.u64.wrap (tm : Int) = (tm : Int) := by rw [IntKind.wrap_u64]; omega
  have l1 := be8_length ep
  have l2 := be8_length rt
  have l3 := be8_length pv
  have l4 := be8_length tm
  have HS : Hid (s = 3 :: (be8 ep ++ be8 rt ++ be8 pv ++ be8 tm)) := hs.symm
  generalize be8 ep = b1 at *
  generalize be8 rt = b2 at *
  generalize be8 pv = b3 at *
  generalize be8 tm = b4 at *
  have hx := HBox.new w (ep : Int) rt pv (tm : Int) 25
  obtain ⟨q0, q1, q2, q3⟩ := hx.below (bdrew (Below.refl _ _))
  have q4 : Below w.heap.size w (w.alloc (.cells #[.int .i64 (ep : Int), .int .u64 (rt : Int), .int .u64 (pv : Int), .int .i64 (tm : Int)] 25)).drew := bdrew ((Below.refl _ _).alloc (Nat.le_refl _) _)
  clear he hrt hpv htm hs hN hx
  go_enter Try.func23, Try.ntmps23
  go_wp2
  generalize w.alloc (.cells #[.int .i64 (ep : Int), .int .u64 (rt : Int), .int .u64 (pv : Int), .int .i64 (tm : Int)] 25) = w0 at *
  go_region_held3 (fun w' => w'.cell? ⟨w.heap.size, 0, none⟩ = some (.int .i64 (ep : Int)) ∧ w'.cell? ⟨w.heap.size, 1, none⟩ = some (.int .u64 (rt : Int)) ∧ w'.cell? ⟨w.heap.size, 2, none⟩ = some (.int .u64 (pv : Int)) ∧ w'.cell? ⟨w.heap.size, 3, none⟩ = some (.int .i64 (tm : Int)) ∧ Below w.heap.size w w') (first | exact ⟨q0, q1, q2, q3, q4⟩ | exact ⟨by assumption, by assumption, by assumption, by assumption, by assumption⟩ | go_keep)
    (first
      | (go_at_call_of 39 ep; refine (hN1 _ ?_).out.mono ?_; (first | exact ⟨by assumption, by assumption, by assumption, by assumption, by assumption⟩); rintro e w' ⟨rfl, k0, k1, k2, k3, k4⟩)
      | (go_at_call_of 39 rt; refine (hN2 _ ?_).out.mono ?_; (first | exact ⟨by assumption, by assumption, by assumption, by assumption, by assumption⟩); rintro e w' ⟨rfl, k0, k1, k2, k3, k4⟩)
      | (go_at_call_of 39 pv; refine (hN3 _ ?_).out.mono ?_; (first | exact ⟨by assumption, by assumption, by assumption, by assumption, by assumption⟩); rintro e w' ⟨rfl, k0, k1, k2, k3, k4⟩)
      | (go_at_call_of 39 tm; refine (hN4 _ ?_).out.mono ?_; (first | exact ⟨by assumption, by assumption, by assumption, by assumption, by assumption⟩); rintro e w' ⟨rfl, k0, k1, k2, k3, k4⟩))
  all_goals
    go_wp2
    go_ret
    exact ⟨by rw [HS.out]; rfl, k4⟩
end Go.Proofs.Ythkhafgcpmoalaa
