/- Package head: Check, Said, Mark, First and Next. They write nothing that was there. -/
import Derived.Test.YtjcockcilkiggaaGreatJ08
import Derived.Test.YtjcockcilkiggaaGreatJ04
import Derived.Test.YtjcockcilkiggaaGreatJ01
namespace Go.Proofs.YtjcockcilkiggaaGreat
set_option maxRecDepth 100000
open Go.RowKit

theorem headWithin (n lo hi : Int) (w : World) (r : Bool) (hr : (decide (lo ≤ n) && decide (n ≤ hi)) = r) :
    Calls Tryz.prog 69 #[.int .i64 n, .int .i64 lo, .int .i64 hi] w fun e w' => e = .returned (.bool r) ∧ w = w' := by
  by_cases h1 : lo ≤ n
  · have c1 : decide (lo ≤ n) = true := decide_eq_true h1
    rw [c1, Bool.true_and] at hr
    clear h1
    by_cases h2 : n ≤ hi
    · have c2 : decide (n ≤ hi) = true := decide_eq_true h2
      obtain rfl : r = true := by rw [← hr, c2]
      clear h2 hr
      go_enter Tryz.func69, Tryz.ntmps69
      go_wp2
      go_ret
      exact ⟨rfl, rfl⟩
    · have c2 : decide (n ≤ hi) = false := decide_eq_false h2
      obtain rfl : r = false := by rw [← hr, c2]
      clear h2 hr
      go_enter Tryz.func69, Tryz.ntmps69
      go_wp2
      go_ret
      exact ⟨rfl, rfl⟩
  · have c1 : decide (lo ≤ n) = false := decide_eq_false h1
    obtain rfl : r = false := by rw [← hr, c1, Bool.false_and]
    clear h1 hr
    go_enter Tryz.func69, Tryz.ntmps69
    go_wp2
    go_ret
    exact ⟨rfl, rfl⟩

theorem within_true {lo n hi : Int} (h1 : lo ≤ n) (h2 : n ≤ hi) : (decide (lo ≤ n) && decide (n ≤ hi)) = true := by simp [h1, h2]
theorem within_false {lo n hi : Int} (h : ¬ (lo ≤ n ∧ n ≤ hi)) : (decide (lo ≤ n) && decide (n ≤ hi)) = false := by
  rw [Bool.and_eq_false_iff]
  by_cases h1 : lo ≤ n
  · exact Or.inr (decide_eq_false fun h2 => h ⟨h1, h2⟩)
  · exact Or.inl (decide_eq_false h1)

theorem hfault_alt (ep : Int) (rt pv : Nat) (tm : Int) : hfault (ep, rt, pv, tm) =
    if 0 ≤ ep ∧ ep ≤ 1000000 then (if 2305843009213693951 ≤ rt then 4 else if 2305843009213693951 ≤ pv then 4 else
      if 0 ≤ tm ∧ tm ≤ 1000000000 then (if ep = 0 then (if pv = 0 then 0 else 3) else 0) else 4) else 4 := by
  unfold hfault
  dsimp only
  repeat' split
  all_goals first | rfl | omega

set_option maxHeartbeats 2000000 in
theorem headCheck (ep : Int) (rt pv : Nat) (tm : Int) (w : World) (r : Int) (hr : hfault (ep, rt, pv, tm) = r) :
    Calls Tryz.prog 44 #[.agg #[.int .i64 ep, .int .u64 (rt : Int), .int .u64 (pv : Int), .int .i64 tm]] w fun e w' => e = .returned (.int .i64 r) ∧ Below w.heap.size w w' := by
  rw [hfault_alt] at hr
  have hz0 := Bx.new w _ rfl _ [.int .i64 ep, .int .u64 (rt : Int), .int .u64 (pv : Int), .int .i64 tm] 45 rfl
  obtain ⟨⟨z0, z1, z2, z3⟩, _⟩ := hz0.get4
  clear hz0
  by_cases h0 : 0 ≤ ep ∧ ep ≤ 1000000
  · rw [if_pos h0] at hr
    have hE := fun w => Lib.hid (headWithin ep 0 1000000 w true (within_true h0.1 h0.2))
    by_cases h1 : 2305843009213693951 ≤ rt
    · rw [if_pos h1] at hr
      have c1 : decide ((2305843009213693951 : Int) ≤ (rt : Int)) = true := decide_eq_true (by omega)
      subst hr
      clear h0 h1
      go_enter Tryz.func44, Tryz.ntmps44
      go_wp2_with fail
      refine (hE _).out.mono ?_
      rintro e w1 ⟨rfl, rfl⟩
      go_wp2
      go_ret
      exact ⟨rfl, (Below.refl _ _).alloc (Nat.le_refl _) _⟩
    rw [if_neg h1] at hr
    have c1 : decide ((2305843009213693951 : Int) ≤ (rt : Int)) = false := decide_eq_false (by omega)
    by_cases h2 : 2305843009213693951 ≤ pv
    · rw [if_pos h2] at hr
      have c2 : decide ((2305843009213693951 : Int) ≤ (pv : Int)) = true := decide_eq_true (by omega)
      subst hr
      clear h0 h1 h2
      go_enter Tryz.func44, Tryz.ntmps44
      go_wp2_with fail
      refine (hE _).out.mono ?_
      rintro e w1 ⟨rfl, rfl⟩
      go_wp2
      go_ret
      exact ⟨rfl, (Below.refl _ _).alloc (Nat.le_refl _) _⟩
    rw [if_neg h2] at hr
    have c2 : decide ((2305843009213693951 : Int) ≤ (pv : Int)) = false := decide_eq_false (by omega)
    by_cases h3 : 0 ≤ tm ∧ tm ≤ 1000000000
    · rw [if_pos h3] at hr
      have hT := fun w => Lib.hid (headWithin tm 0 1000000000 w true (within_true h3.1 h3.2))
      by_cases h4 : ep = 0
      · rw [if_pos h4] at hr
        have c4 : (ep == (0 : Int)) = true := beq_iff_eq.2 h4
        by_cases h5 : pv = 0
        · rw [if_pos h5] at hr
          have c5 : ((pv : Int) == (0 : Int)) = true := beq_iff_eq.2 (by omega)
          subst hr
          clear h0 h1 h2 h3 h4 h5
          go_enter Tryz.func44, Tryz.ntmps44
          go_wp2_with fail
          refine (hE _).out.mono ?_
          rintro e w1 ⟨rfl, rfl⟩
          go_wp2_with fail
          refine (hT _).out.mono ?_
          rintro e w1 ⟨rfl, rfl⟩
          go_wp2
          go_ret
          exact ⟨rfl, (Below.refl _ _).alloc (Nat.le_refl _) _⟩
        · rw [if_neg h5] at hr
          have c5 : ((pv : Int) == (0 : Int)) = false := beq_eq_false_iff_ne.2 (by omega)
          subst hr
          clear h0 h1 h2 h3 h4 h5
          go_enter Tryz.func44, Tryz.ntmps44
          go_wp2_with fail
          refine (hE _).out.mono ?_
          rintro e w1 ⟨rfl, rfl⟩
          go_wp2_with fail
          refine (hT _).out.mono ?_
          rintro e w1 ⟨rfl, rfl⟩
          go_wp2
          go_ret
          exact ⟨rfl, (Below.refl _ _).alloc (Nat.le_refl _) _⟩
      · rw [if_neg h4] at hr
        have c4 : (ep == (0 : Int)) = false := beq_eq_false_iff_ne.2 h4
        subst hr
        clear h0 h1 h2 h3 h4
        go_enter Tryz.func44, Tryz.ntmps44
        go_wp2_with fail
        refine (hE _).out.mono ?_
        rintro e w1 ⟨rfl, rfl⟩
        go_wp2_with fail
        refine (hT _).out.mono ?_
        rintro e w1 ⟨rfl, rfl⟩
        go_wp2
        go_ret
        exact ⟨rfl, (Below.refl _ _).alloc (Nat.le_refl _) _⟩
    · rw [if_neg h3] at hr
      have hT := fun w => Lib.hid (headWithin tm 0 1000000000 w false (within_false h3))
      subst hr
      clear h0 h1 h2 h3
      go_enter Tryz.func44, Tryz.ntmps44
      go_wp2_with fail
      refine (hE _).out.mono ?_
      rintro e w1 ⟨rfl, rfl⟩
      go_wp2_with fail
      refine (hT _).out.mono ?_
      rintro e w1 ⟨rfl, rfl⟩
      go_wp2
      go_ret
      exact ⟨rfl, (Below.refl _ _).alloc (Nat.le_refl _) _⟩
  · rw [if_neg h0] at hr
    have hE := fun w => Lib.hid (headWithin ep 0 1000000 w false (within_false h0))
    subst hr
    clear h0
    go_enter Tryz.func44, Tryz.ntmps44
    go_wp2_with fail
    refine (hE _).out.mono ?_
    rintro e w1 ⟨rfl, rfl⟩
    go_wp2
    go_ret
    exact ⟨rfl, (Below.refl _ _).alloc (Nat.le_refl _) _⟩

set_option maxHeartbeats 1000000 in
theorem headSaid_no (ep : Int) (rt pv : Nat) (tm : Int) (w : World) (r : Int) (hr : hfault (ep, rt, pv, tm) = r) (h0 : r ≠ 0) :
    Calls Tryz.prog 99 #[.agg #[.int .i64 ep, .int .u64 (rt : Int), .int .u64 (pv : Int), .int .i64 tm]] w fun e w' => e = .returned (.tuple #[.string ⟨#[]⟩, .int .i64 r]) ∧ Below w.heap.size w w' := by
  have hC := fun w => Lib.hid (headCheck ep rt pv tm w r hr)
  have c1 : (r == 0) = false := beq_eq_false_iff_ne.2 h0
  clear hr h0
  go_enter Tryz.func99, Tryz.ntmps99
  go_wp2_with fail
  refine (hC _).out.mono ?_
  rintro e w1 ⟨rfl, hb1⟩
  have hb01 := below_chain ((Below.refl _ _).alloc (Nat.le_refl _) _) hb1
  go_wp2
  go_ret2
  exact ⟨rfl, hb01⟩

set_option maxHeartbeats 4000000 in
theorem headSaid_nat (ep rt pv tm : Nat) (w : World) (h : HGood ((ep : Int), rt, pv, (tm : Int))) (s : Bytes) (hs : hsaid ((ep : Int), rt, pv, (tm : Int)) = s) :
    Calls Tryz.prog 99 #[.agg #[.int .i64 (ep : Int), .int .u64 (rt : Int), .int .u64 (pv : Int), .int .i64 (tm : Int)]] w fun e w' => e = .returned (.tuple #[.string (S s), .int .i64 0]) ∧ Below w.heap.size w w' := by
  have hC := fun w => Lib.hid (headCheck (ep : Int) rt pv (tm : Int) w 0 ((hfault_ok _).2 h))
  have hN : ∀ x : Nat, x < 18446744073709551616 → ∀ W : World, (W.cell? ⟨w.heap.size, 0, none⟩ = some (.int .i64 (ep : Int)) ∧ W.cell? ⟨w.heap.size, 1, none⟩ = some (.int .u64 (rt : Int)) ∧ W.cell? ⟨w.heap.size, 2, none⟩ = some (.int .u64 (pv : Int)) ∧ W.cell? ⟨w.heap.size, 3, none⟩ = some (.int .i64 (tm : Int)) ∧ Below w.heap.size w W) → Hid (Calls Tryz.prog 103 #[.int .u64 (x : Int)] W fun e w' => e = .returned (.string (S (be8 x))) ∧ w'.cell? ⟨w.heap.size, 0, none⟩ = some (.int .i64 (ep : Int)) ∧ w'.cell? ⟨w.heap.size, 1, none⟩ = some (.int .u64 (rt : Int)) ∧ w'.cell? ⟨w.heap.size, 2, none⟩ = some (.int .u64 (pv : Int)) ∧ w'.cell? ⟨w.heap.size, 3, none⟩ = some (.int .i64 (tm : Int)) ∧ Below w.heap.size w w') := fun x hx W h => by
    show Calls _ _ _ _ _
    refine (num_any x W hx).mono ?_
    rintro e w' ⟨rfl, hb⟩
    exact ⟨rfl, kept h.1 hb, kept h.2.1 hb, kept h.2.2.1 hb, kept h.2.2.2.1 hb, below_chain h.2.2.2.2 hb⟩
  obtain ⟨e0, e1, r, p, t0, t1, -⟩ := h
  dsimp only at e0 e1 r p t0 t1
  have hN1 := hN ep (by omega)
  have hN2 := hN rt (by omega)
  have hN3 := hN pv (by omega)
  have hN4 := hN tm (by omega)
  have u1 : IntKind.u64.wrap (ep : Int) = (ep : Int) := by rw [IntKind.wrap_u64]; omega
  have u4 : IntKind.u64.wrap (tm : Int) = (tm : Int) := by rw [IntKind.wrap_u64]; omega
  have l1 := be8_length ep
  have l2 := be8_length rt
  have l3 := be8_length pv
  have l4 := be8_length tm
  have HS : Hid (s = 3 :: (be8 ep ++ be8 rt ++ be8 pv ++ be8 tm)) := hs.symm
  generalize be8 ep = b1 at *
  generalize be8 rt = b2 at *
  generalize be8 pv = b3 at *
  generalize be8 tm = b4 at *
  have hx := HBox.new w (ep : Int) rt pv (tm : Int) 45
  clear e0 e1 r p t0 t1 hs hN
  go_enter Tryz.func99, Tryz.ntmps99
  go_wp2_with fail
  refine (hC _).out.mono ?_
  rintro e w0 ⟨rfl, hb1⟩
  obtain ⟨q0, q1, q2, q3⟩ := (hx.below hb1).below (bdrew (Below.refl _ _))
  have q4 : Below w.heap.size w w0.drew := bdrew (below_chain ((Below.refl _ _).alloc (Nat.le_refl _) _) hb1)
  clear hx hb1 hC
  go_wp2
  go_region_held3 (fun w' => w'.cell? ⟨w.heap.size, 0, none⟩ = some (.int .i64 (ep : Int)) ∧ w'.cell? ⟨w.heap.size, 1, none⟩ = some (.int .u64 (rt : Int)) ∧ w'.cell? ⟨w.heap.size, 2, none⟩ = some (.int .u64 (pv : Int)) ∧ w'.cell? ⟨w.heap.size, 3, none⟩ = some (.int .i64 (tm : Int)) ∧ Below w.heap.size w w') (first | exact ⟨q0, q1, q2, q3, q4⟩ | exact ⟨by assumption, by assumption, by assumption, by assumption, by assumption⟩ | go_keep)
    (first
      | (go_at_call_of 103 ep; refine (hN1 _ ?_).out.mono ?_; (first | exact ⟨by assumption, by assumption, by assumption, by assumption, by assumption⟩); rintro e w' ⟨rfl, k0, k1, k2, k3, k4⟩)
      | (go_at_call_of 103 rt; refine (hN2 _ ?_).out.mono ?_; (first | exact ⟨by assumption, by assumption, by assumption, by assumption, by assumption⟩); rintro e w' ⟨rfl, k0, k1, k2, k3, k4⟩)
      | (go_at_call_of 103 pv; refine (hN3 _ ?_).out.mono ?_; (first | exact ⟨by assumption, by assumption, by assumption, by assumption, by assumption⟩); rintro e w' ⟨rfl, k0, k1, k2, k3, k4⟩)
      | (go_at_call_of 103 tm; refine (hN4 _ ?_).out.mono ?_; (first | exact ⟨by assumption, by assumption, by assumption, by assumption, by assumption⟩); rintro e w' ⟨rfl, k0, k1, k2, k3, k4⟩))
  all_goals
    go_wp2
    go_ret2
    exact ⟨by rw [HS.out]; rfl, k4⟩

theorem headSaid_yes (ep : Int) (rt pv : Nat) (tm : Int) (w : World) (h : HGood (ep, rt, pv, tm)) (s : Bytes) (hs : hsaid (ep, rt, pv, tm) = s) :
    Calls Tryz.prog 99 #[.agg #[.int .i64 ep, .int .u64 (rt : Int), .int .u64 (pv : Int), .int .i64 tm]] w fun e w' => e = .returned (.tuple #[.string (S s), .int .i64 0]) ∧ Below w.heap.size w w' := by
  have e0 := h.e0
  have t0 := h.t0
  dsimp only at e0 t0
  obtain ⟨n, rfl⟩ := Int.eq_ofNat_of_zero_le e0
  obtain ⟨m, rfl⟩ := Int.eq_ofNat_of_zero_le t0
  exact headSaid_nat n rt pv m w h s hs

theorem headMark_no (ep : Int) (rt pv : Nat) (tm : Int) (w : World) (r : Int) (hr : hfault (ep, rt, pv, tm) = r) (h0 : r ≠ 0) :
    Calls Tryz.prog 88 #[.agg #[.int .i64 ep, .int .u64 (rt : Int), .int .u64 (pv : Int), .int .i64 tm]] w fun e w' => e = .returned (.tuple #[.int .u64 0, .int .i64 r]) ∧ Below w.heap.size w w' := by
  have hC := fun w => Lib.hid (headSaid_no ep rt pv tm w r hr h0)
  have c1 : (r == 0) = false := beq_eq_false_iff_ne.2 h0
  clear hr h0
  go_enter Tryz.func88, Tryz.ntmps88
  go_wp2_with fail
  refine (hC _).out.mono ?_
  rintro e w1 ⟨rfl, hb1⟩
  have hb01 := below_chain ((Below.refl _ _).alloc (Nat.le_refl _) _) hb1
  go_wp2
  go_ret2
  exact ⟨rfl, hb01⟩
theorem headMark_yes (ep : Int) (rt pv : Nat) (tm : Int) (w : World) (h : HGood (ep, rt, pv, tm)) (x : Nat) (hx : hmark (ep, rt, pv, tm) = x) :
    Calls Tryz.prog 88 #[.agg #[.int .i64 ep, .int .u64 (rt : Int), .int .u64 (pv : Int), .int .i64 tm]] w fun e w' => e = .returned (.tuple #[.int .u64 (x : Int), .int .i64 0]) ∧ Below w.heap.size w w' := by
  have hC := fun w => Lib.hid (headSaid_yes ep rt pv tm w h _ rfl)
  have hM := fun w => Lib.hid (markOf (hsaid (ep, rt, pv, tm)) w (hsaid_le _))
  rw [hmark] at hx
  rw [hx] at hM
  generalize hsaid (ep, rt, pv, tm) = s at *
  clear hx h
  go_enter Tryz.func88, Tryz.ntmps88
  go_wp2_with fail
  refine (hC _).out.mono ?_
  rintro e w1 ⟨rfl, hb1⟩
  have hb01 := below_chain ((Below.refl _ _).alloc (Nat.le_refl _) _) hb1
  go_wp2_with fail
  refine (hM _).out.mono ?_
  rintro e w2 ⟨rfl, m, rfl⟩
  go_wp2
  go_ret2
  exact ⟨rfl, below_drewN hb01 m⟩
end Go.Proofs.YtjcockcilkiggaaGreat
