/- Package chain: succeeds, last. They write nothing that was there. -/
import Derived.Test.YthkhafgcpmoalaaChainPlain
import Derived.Test.YthkhafgcpmoalaaHeadRow
namespace Go.Proofs.Ythkhafgcpmoalaa
set_option maxRecDepth 100000
open Go.RowKit

set_option maxHeartbeats 2000000 in
theorem chainSucceeds (ep : Int) (rt pv : Nat) (tm fp : Int) (st qv : Nat) (um : Int) (w : World) (b : Bool) (hb : links (ep, rt, pv, tm) (fp, st, qv, um) = b) :
    Calls Try.prog 29 #[.agg #[.int .i64 ep, .int .u64 (rt : Int), .int .u64 (pv : Int), .int .i64 tm], .agg #[.int .i64 fp, .int .u64 (st : Int), .int .u64 (qv : Int), .int .i64 um]] w fun e w' => e = .returned (.bool b) ∧ Below w.heap.size w w' := by
  have z0 := Bx.new (w.alloc (.cells #[.int .i64 ep, .int .u64 (rt : Int), .int .u64 (pv : Int), .int .i64 tm] 25)) (w.heap.size + 1) (by simp) _ [.int .i64 fp, .int .u64 (st : Int), .int .u64 (qv : Int), .int .i64 um] 25 rfl
  have hb0 : Below w.heap.size w ((w.alloc (.cells #[.int .i64 ep, .int .u64 (rt : Int), .int .u64 (pv : Int), .int .i64 tm] 25)).alloc (.cells #[.int .i64 fp, .int .u64 (st : Int), .int .u64 (qv : Int), .int .i64 um] 25)) := ((Below.refl _ _).alloc (Nat.le_refl _) _).alloc (by simp) _
  by_cases hn : nextErr (ep, rt, pv, tm) st um = 0
  · have k := (nextErr_ok _ _ _).1 hn
    obtain ⟨q, hq⟩ : ∃ q, ep + 1 = q := ⟨_, rfl⟩
    obtain ⟨m, hm⟩ : ∃ m, hmark (ep, rt, pv, tm) = m := ⟨_, rfl⟩
    have hN := fun w => Lib.hid (headNext_ok ep rt pv tm st um w k m hm q hq)
    have hl := links_next (ep, rt, pv, tm) (fp, st, qv, um)
    dsimp only at hl
    rw [hq, hm] at hl
    by_cases e1 : q = fp ∧ m = qv
    · obtain rfl : b = true := by rw [← hb]; exact hl.2 ⟨k, e1⟩
      obtain ⟨rfl, rfl⟩ := e1
      clear hb hl k hn hq hm
      go_enter Try.func29, Try.ntmps29
      go_wp2_with fail
      refine (hN _).out.mono ?_
      rintro e w1 ⟨rfl, hb1⟩
      obtain ⟨⟨z1, z2, z3, z4⟩, _⟩ := ((z0.below hb1).alloc (.cells #[.int .i64 q, .int .u64 (st : Int), .int .u64 (m : Int), .int .i64 um] 25)).get4
      have hb2 := below_chain hb0 hb1
      clear z0 hb0
      go_wp2
      go_ret
      exact ⟨rfl, hb2.alloc hb2.size _⟩
    · have eb : b = false := by
        rw [← hb, ← Bool.not_eq_true, hl]
        exact fun h => e1 h.2
      subst eb
      clear hb hl k hn hq hm
      by_cases e2 : q = fp
      · have c2 : (q == fp) = true := beq_iff_eq.2 e2
        have c3 : ((m : Int) == (qv : Int)) = false := beq_eq_false_iff_ne.2 (fun h => e1 ⟨e2, by omega⟩)
        clear e1 e2
        go_enter Try.func29, Try.ntmps29
        go_wp2_with fail
        refine (hN _).out.mono ?_
        rintro e w1 ⟨rfl, hb1⟩
        obtain ⟨⟨z1, z2, z3, z4⟩, _⟩ := ((z0.below hb1).alloc (.cells #[.int .i64 q, .int .u64 (st : Int), .int .u64 (m : Int), .int .i64 um] 25)).get4
        have hb2 := below_chain hb0 hb1
        clear z0 hb0
        go_wp2
        go_ret
        exact ⟨rfl, hb2.alloc hb2.size _⟩
      · have c2 : (q == fp) = false := beq_eq_false_iff_ne.2 e2
        clear e1 e2
        go_enter Try.func29, Try.ntmps29
        go_wp2_with fail
        refine (hN _).out.mono ?_
        rintro e w1 ⟨rfl, hb1⟩
        obtain ⟨⟨z1, z2, z3, z4⟩, _⟩ := ((z0.below hb1).alloc (.cells #[.int .i64 q, .int .u64 (st : Int), .int .u64 (m : Int), .int .i64 um] 25)).get4
        have hb2 := below_chain hb0 hb1
        clear z0 hb0
        go_wp2
        go_ret
        exact ⟨rfl, hb2.alloc hb2.size _⟩
  · have eb : b = false := by
      rw [← hb, ← Bool.not_eq_true, links_next]
      rintro ⟨h, _⟩
      exact hn ((nextErr_ok _ _ _).2 h)
    subst eb
    obtain ⟨r, hr⟩ : ∃ r, nextErr (ep, rt, pv, tm) st um = r := ⟨_, rfl⟩
    rw [hr] at hn
    have hN := fun w => Lib.hid (headNext_no ep rt pv tm st um w r hr hn)
    have c1 : (r == 0) = false := beq_eq_false_iff_ne.2 hn
    clear hb hr hn
    go_enter Try.func29, Try.ntmps29
    go_wp2_with fail
    refine (hN _).out.mono ?_
    rintro e w1 ⟨rfl, hb1⟩
    have hb2 := below_chain hb0 hb1
    clear z0 hb0
    go_wp2
    go_ret
    exact ⟨rfl, hb2.alloc hb2.size _⟩
end Go.Proofs.Ythkhafgcpmoalaa
