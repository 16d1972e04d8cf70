/- Package head: Next, in two cases. -/
import Derived.Test.YthkhafgcpmoalaaHeadNew
namespace Go.Proofs.Ythkhafgcpmoalaa
set_option maxRecDepth 100000
open Go.RowKit

/-- The error of Next. -/
def nextErr (h : Hd) (nr : Nat) (at' : Int) : Int :=
  if hfault h = 0 then (if h.1 = 1000000 then 7 else if 2305843009213693951 ≤ nr then 4 else if h.2.2.2 ≤ at' ∧ at' ≤ 1000000000 then 0 else 4) else hfault h
structure NextOk (h : Hd) (nr : Nat) (at' : Int) : Prop where
  g : HGood h
  e : h.1 ≠ 1000000
  r : nr < 2305843009213693951
  t : h.2.2.2 ≤ at' ∧ at' ≤ 1000000000
theorem nextErr_ok (h : Hd) (nr : Nat) (at' : Int) : nextErr h nr at' = 0 ↔ NextOk h nr at' := by
  unfold nextErr
  constructor
  · intro e
    by_cases h0 : hfault h = 0
    · rw [if_pos h0] at e
      by_cases h1 : h.1 = 1000000
      · rw [if_pos h1] at e; exact absurd e (by decide)
      rw [if_neg h1] at e
      by_cases h2 : 2305843009213693951 ≤ nr
      · rw [if_pos h2] at e; exact absurd e (by decide)
      rw [if_neg h2] at e
      by_cases h3 : h.2.2.2 ≤ at' ∧ at' ≤ 1000000000
      · exact ⟨(hfault_ok _).1 h0, h1, by omega, h3⟩
      · rw [if_neg h3] at e; exact absurd e (by decide)
    · rw [if_neg h0] at e; exact absurd e h0
  · rintro ⟨g, e, r, t⟩
    rw [if_pos ((hfault_ok _).2 g), if_neg e, if_neg (by omega), if_pos t]
/-- The successor of a head. -/
def nextOf (h : Hd) (nr : Nat) (at' : Int) : Hd := (h.1 + 1, nr, hmark h, at')
theorem nextOf_good {h : Hd} {nr : Nat} {at' : Int} (k : NextOk h nr at') : hfault (nextOf h nr at') = 0 := by
  obtain ⟨⟨e0, e1, r, p, t0, t1, z⟩, e, r', t⟩ := k
  refine (hfault_ok _).2 ⟨?_, ?_, r', Hash.of_lt _, ?_, ?_, ?_⟩ <;> simp only [nextOf] <;> omega

theorem headNext_no (ep : Int) (rt pv : Nat) (tm : Int) (nr : Nat) (at' : Int) (w : World) (r : Int) (hr : nextErr (ep, rt, pv, tm) nr at' = r) (h0 : r ≠ 0) :
    Calls Try.prog 30 #[.agg #[.int .i64 ep, .int .u64 (rt : Int), .int .u64 (pv : Int), .int .i64 tm], .int .u64 (nr : Int), .int .i64 at'] w fun e w' => e = .returned (.tuple #[.agg #[.int .i64 0, .int .u64 0, .int .u64 0, .int .i64 0], .int .i64 r]) ∧ Below w.heap.size w w' := by
  unfold nextErr at hr
  by_cases k0 : hfault (ep, rt, pv, tm) = 0
  · rw [if_pos k0] at hr
    have kg := (hfault_ok _).1 k0
    by_cases k1 : ep = 1000000
    · rw [if_pos k1] at hr; subst hr; exact headNext_full ep rt pv tm nr at' w kg k1
    rw [if_neg k1] at hr
    by_cases k2 : 2305843009213693951 ≤ nr
    · rw [if_pos k2] at hr; subst hr; exact headNext_root ep rt pv tm nr at' w kg k1 k2
    rw [if_neg k2] at hr
    by_cases k3 : tm ≤ at' ∧ at' ≤ 1000000000
    · rw [if_pos k3] at hr; exact absurd hr.symm h0
    · rw [if_neg k3] at hr; subst hr; exact headNext_at ep rt pv tm nr at' w kg k1 (by omega) k3
  · rw [if_neg k0] at hr
    exact headNext_fault ep rt pv tm nr at' w r hr h0
theorem headNext_ok (ep : Int) (rt pv : Nat) (tm : Int) (nr : Nat) (at' : Int) (w : World) (k : NextOk (ep, rt, pv, tm) nr at') (m : Nat) (hm : hmark (ep, rt, pv, tm) = m) (q : Int) (hq : ep + 1 = q) :
    Calls Try.prog 30 #[.agg #[.int .i64 ep, .int .u64 (rt : Int), .int .u64 (pv : Int), .int .i64 tm], .int .u64 (nr : Int), .int .i64 at'] w fun e w' => e = .returned (.tuple #[.agg #[.int .i64 q, .int .u64 (nr : Int), .int .u64 (m : Int), .int .i64 at'], .int .i64 0]) ∧ Below w.heap.size w w' := by
  subst hq
  exact headNext_yes ep rt pv tm nr at' w k.g k.e k.r k.t m hm
theorem headCheck_next (ep : Int) (rt pv : Nat) (tm : Int) (nr : Nat) (at' : Int) (w : World) (k : NextOk (ep, rt, pv, tm) nr at') (m : Nat) (hm : hmark (ep, rt, pv, tm) = m) (q : Int) (hq : ep + 1 = q) :
    Calls Try.prog 28 #[.agg #[.int .i64 q, .int .u64 (nr : Int), .int .u64 (m : Int), .int .i64 at']] w fun e w' => e = .returned (.int .i64 0) ∧ Below w.heap.size w w' := by
  subst hq
  subst hm
  exact headCheck (ep + 1) nr (hmark (ep, rt, pv, tm)) at' w 0 (nextOf_good k)
end Go.Proofs.Ythkhafgcpmoalaa
