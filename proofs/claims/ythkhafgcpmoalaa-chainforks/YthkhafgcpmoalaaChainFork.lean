/- Package chain: Fork, alike, said. They write nothing that was there. -/
import Derived.Test.YthkhafgcpmoalaaChainCommon
namespace Go.Proofs.Ythkhafgcpmoalaa
set_option maxRecDepth 100000
open Go.RowKit

/-- The epoch of the first head of the one list that is not the other's, or -1. -/
def forkAt : List Hd → List Hd → Int
  | x :: s, y :: t => if x = y then forkAt s t else x.1
  | _, _ => -1
set_option maxHeartbeats 1000000 in
theorem chainFork_no (A B : Option Addr) (c d : Nat) (a b : List Hd) (w : World) (hma : a.length ≤ maxLen) (hmb : b.length ≤ maxLen) (hA : Row w A (hcells a)) (hB : Row w B (hcells b)) (r : Int) (hr : comErr a b = r) (h0 : r ≠ 0) :
    Calls Try.prog 21 #[.slice A a.length c, .slice B b.length d] w fun e w' => e = .returned (.tuple #[.int .i64 0, .int .i64 r]) ∧ Below w.heap.size w w' := by
  have hC := fun (w : World) hA hB => Lib.hid (chainCommon_no A B c d a b w hma hmb hA hB r hr h0)
  have c1 : (r == 0) = false := beq_eq_false_iff_ne.2 h0
  clear hr h0
  go_enter Try.func21, Try.ntmps21
  go_wp2_with fail
  refine (hC _ hA hB).out.mono ?_
  rintro e w1 ⟨rfl, hb1⟩
  clear hC
  go_wp2
  go_ret2
  exact ⟨rfl, hb1⟩
set_option maxHeartbeats 2000000 in
theorem chainFork_ok (A B : Option Addr) (c d : Nat) (a b : List Hd) (w : World) (hca : a.length ≤ c) (hcm : c ≤ maxLen) (hdb : b.length ≤ d) (hdm : d ≤ maxLen) (hA : Row w A (hcells a)) (hB : Row w B (hcells b)) (k : ComOk a b) (r : Int) (hr : forkAt (comA a b) (comB a b) = r) :
    Calls Try.prog 21 #[.slice A a.length c, .slice B b.length d] w fun e w' => e = .returned (.tuple #[.int .i64 r, .int .i64 0]) ∧ Below w.heap.size w w' := by
  have hC := fun (w : World) hA hB => Lib.hid (chainCommon_ok A B c d a b w hca hcm hdb hdm hA hB k)
  have hn := k.len.2.1
  generalize comA a b = S at *
  generalize comB a b = T at *
  generalize comLen a b = n at *
  have HR := Lib.hid hr
  clear k hca hcm hdb hdm hr
  go_enter Try.func21, Try.ntmps21
  go_wp2_with fail
  refine (hC _ hA hB).out.mono ?_
  rintro e w1 ⟨A', B', c', d', rfl, hS, hT, hs, ht, -, -, hb1⟩
  have HL := Lib.hid (And.intro hs ht)
  clear hC hA hB hs ht
  go_wp2
  go_loopw [21] (fun i wr => ∃ k : Nat, k ≤ n ∧ i = .int .i64 k ∧ Hid (forkAt S T = forkAt (S.drop k) (T.drop k)) ∧ Below w1.heap.size w1 wr) (fun i _ => n - (intOf i).toNat)
  case atStart => exact ⟨0, Nat.zero_le _, rfl, rfl, Below.refl _ _⟩
  case round =>
    obtain ⟨k, hk, rfl, HS, hbl⟩ := hrel
    have hbw := below_chain hb1 hbl
    clear hb1
    by_cases hlt : k < n
    · have hkS : k < S.length := by have := HL.out.1; omega
      have hkT : k < T.length := by have := HL.out.2; omega
      obtain ⟨g, off, rfl, h1, h2, h3, h4⟩ := (hS.below hbl).head k hkS
      have hi0 : (0 : Int) ≤ (k : Int) := by omega
      have hi1 : (k : Int) < (n : Int) := by omega
      have HS' : Hid (forkAt S T = if S[k] = T[k] then forkAt (S.drop (k + 1)) (T.drop (k + 1)) else S[k].1) := by
        show _ = _
        rw [HS.out, List.drop_eq_getElem_cons hkS, List.drop_eq_getElem_cons hkT, forkAt]
      obtain ⟨⟨a1, a2, a3, a4⟩, hx⟩ : ∃ x, S[k] = x := ⟨_, rfl⟩
      obtain ⟨⟨b1, b2, b3, b4⟩, hy⟩ : ∃ x, T[k] = x := ⟨_, rfl⟩
      rw [hx] at h1 h2 h3 h4
      rw [hx, hy] at HS'
      dsimp only at h1 h2 h3 h4
      have hbx := hbl.alloc hbl.size (.cells #[.int .i64 a1, .int .u64 (a2 : Int), .int .u64 (a3 : Int), .int .i64 a4] 25)
      have hbwx := hbw.alloc hbw.size (.cells #[.int .i64 a1, .int .u64 (a2 : Int), .int .u64 (a3 : Int), .int .i64 a4] 25)
      have hv := (Bx.new wr _ rfl _ [.int .i64 a1, .int .u64 (a2 : Int), .int .u64 (a3 : Int), .int .i64 a4] 25 rfl).get4.1
      obtain ⟨g', off', rfl, j1, j2, j3, j4⟩ := (hT.below hbx).head k hkT
      rw [hy] at j1 j2 j3 j4
      dsimp only at j1 j2 j3 j4
      obtain ⟨v1, v2, v3, v4⟩ := hv
      clear hS hT HS hx hy
      have fin : ∀ (x y z u : Bool), (a1 == b1) = x → ((a2 : Int) == (b2 : Int)) = y → ((a3 : Int) == (b3 : Int)) = z → (a4 == b4) = u → (x && (y && (z && u))) = false → r = a1 := by
        intro x y z u e1 e2 e3 e4 h
        rw [← HR.out, HS'.out, if_neg]
        intro e
        simp only [Prod.mk.injEq] at e
        obtain ⟨rfl, rfl, rfl, rfl⟩ := e
        simp at e1 e2 e3 e4
        subst e1; subst e2; subst e3; subst e4
        exact absurd h (by decide)
      have fin2 : (a1 == b1) = true → ((a2 : Int) == (b2 : Int)) = true → ((a3 : Int) == (b3 : Int)) = true → (a4 == b4) = true → forkAt S T = forkAt (S.drop (k + 1)) (T.drop (k + 1)) := by
        intro e1 e2 e3 e4
        rw [beq_iff_eq] at e1 e2 e3 e4
        rw [HS'.out, if_pos (by rw [e1, e4, Int.ofNat_inj.1 e2, Int.ofNat_inj.1 e3])]
      clear HS'
      cases c1 : a1 == b1 with
      | false =>
        have HF := Lib.hid (fin _ _ _ _ c1 rfl rfl rfl (by simp))
        clear HL HR fin fin2
        go_wp2
        go_quiet (fail)
        go_wp2
        go_ret2
        exact ⟨by rw [HF.out]; rfl, below_drewN hbwx _⟩
      | true =>
      cases c2 : (a2 : Int) == (b2 : Int) with
      | false =>
        have HF := Lib.hid (fin _ _ _ _ c1 c2 rfl rfl (by simp))
        clear HL HR fin fin2
        go_wp2
        go_quiet (fail)
        go_wp2
        go_ret2
        exact ⟨by rw [HF.out]; rfl, below_drewN hbwx _⟩
      | true =>
      cases c3 : (a3 : Int) == (b3 : Int) with
      | false =>
        have HF := Lib.hid (fin _ _ _ _ c1 c2 c3 rfl (by simp))
        clear HL HR fin fin2
        go_wp2
        go_quiet (fail)
        go_wp2
        go_ret2
        exact ⟨by rw [HF.out]; rfl, below_drewN hbwx _⟩
      | true =>
      cases c4 : a4 == b4 with
      | false =>
        have HF := Lib.hid (fin _ _ _ _ c1 c2 c3 c4 (by simp))
        clear HL HR fin fin2
        go_wp2
        go_quiet (fail)
        go_wp2
        go_ret2
        exact ⟨by rw [HF.out]; rfl, below_drewN hbwx _⟩
      | true =>
        have HS' := Lib.hid (fin2 c1 c2 c3 c4)
        clear HL HR fin fin2
        go_wp2
        go_quiet (fail)
        go_wp2
        go_roundw
        case rel => exact ⟨k + 1, by omega, by go_num, HS', below_drewN hbx _⟩
        case measure => simp [intOf]; omega
    · have HF : Hid (r = -1) := by
        show r = -1
        rw [← HR.out, HS.out, List.drop_eq_nil_of_le (by have := HL.out.1; omega)]
        rfl
      clear HS HL HR
      go_wp2
      go_ret2
      exact ⟨by rw [HF.out]; rfl, hbw⟩

set_option maxHeartbeats 400000 in
theorem chainAlike (ep : Int) (rt pv : Nat) (tm : Int) (fp : Int) (st qv : Nat) (um : Int) (w : World) (hg : HGood (ep, rt, pv, tm)) (hh : HGood (fp, st, qv, um)) (b : Bool) (hb : decide (hmark (ep, rt, pv, tm) = hmark (fp, st, qv, um)) = b) :
    Calls Try.prog 36 #[.agg #[.int .i64 ep, .int .u64 (rt : Int), .int .u64 (pv : Int), .int .i64 tm], .agg #[.int .i64 fp, .int .u64 (st : Int), .int .u64 (qv : Int), .int .i64 um]] w fun e w' => e = .returned (.bool b) ∧ Below w.heap.size w w' := by
  obtain ⟨m, hm⟩ : ∃ m, hmark (ep, rt, pv, tm) = m := ⟨_, rfl⟩
  obtain ⟨n, hn⟩ : ∃ n, hmark (fp, st, qv, um) = n := ⟨_, rfl⟩
  have hM := fun w => Lib.hid (headMark_yes ep rt pv tm w hg m hm)
  have hN := fun w => Lib.hid (headMark_yes fp st qv um w hh n hn)
  rw [hm, hn] at hb
  have c1 : ((m : Int) == (n : Int)) = b := by
    rw [← hb]
    by_cases e : m = n
    · rw [e, decide_eq_true rfl, beq_self_eq_true]
    · rw [decide_eq_false e]
      exact beq_eq_false_iff_ne.2 (by omega)
  have z0 := (Bx.new w _ rfl _ [.int .i64 ep, .int .u64 (rt : Int), .int .u64 (pv : Int), .int .i64 tm] 25 rfl).alloc (.cells #[.int .i64 fp, .int .u64 (st : Int), .int .u64 (qv : Int), .int .i64 um] 25)
  have z1 := Bx.new (w.alloc (.cells #[.int .i64 ep, .int .u64 (rt : Int), .int .u64 (pv : Int), .int .i64 tm] 25)) (w.heap.size + 1) (by simp) _ [.int .i64 fp, .int .u64 (st : Int), .int .u64 (qv : Int), .int .i64 um] 25 rfl
  have hb0 : Below w.heap.size w ((w.alloc (.cells #[.int .i64 ep, .int .u64 (rt : Int), .int .u64 (pv : Int), .int .i64 tm] 25)).alloc (.cells #[.int .i64 fp, .int .u64 (st : Int), .int .u64 (qv : Int), .int .i64 um] 25)) := ((Below.refl _ _).alloc (Nat.le_refl _) _).alloc (by simp) _
  clear hb hm hn hg hh
  obtain ⟨⟨x0, x1, x2, x3⟩, -⟩ := z0.get4
  go_enter Try.func36, Try.ntmps36
  go_wp2_with fail
  refine (hM _).out.mono ?_
  rintro e w1 ⟨rfl, hb1⟩
  have z2 := z1.below hb1
  have hb2 := below_chain hb0 hb1
  obtain ⟨⟨y0, y1, y2, y3⟩, -⟩ := z2.get4
  clear hM z0 z1 x0 x1 x2 x3 hb0 hb1
  go_wp2_with fail
  refine (hN _).out.mono ?_
  rintro e w3 ⟨rfl, hb3⟩
  have hb4 := below_chain hb2 hb3
  clear hN z2 y0 y1 y2 y3 hb2 hb3
  go_wp2
  go_ret
  exact ⟨rfl, hb4⟩
set_option maxHeartbeats 400000 in
theorem chainSaid (ep : Int) (rt pv : Nat) (tm : Int) (w : World) (hg : HGood (ep, rt, pv, tm)) (s : Bytes) (hs : hsaid (ep, rt, pv, tm) = s) :
    Calls Try.prog 38 #[.agg #[.int .i64 ep, .int .u64 (rt : Int), .int .u64 (pv : Int), .int .i64 tm]] w fun e w' => e = .returned (.string (S s)) ∧ Below w.heap.size w w' := by
  have hM := fun w => Lib.hid (headSaid_yes ep rt pv tm w hg s hs)
  obtain ⟨⟨x0, x1, x2, x3⟩, -⟩ := (Bx.new w _ rfl _ [.int .i64 ep, .int .u64 (rt : Int), .int .u64 (pv : Int), .int .i64 tm] 25 rfl).get4
  have hb0 : Below w.heap.size w (w.alloc (.cells #[.int .i64 ep, .int .u64 (rt : Int), .int .u64 (pv : Int), .int .i64 tm] 25)) := (Below.refl _ _).alloc (Nat.le_refl _) _
  clear hg hs
  go_enter Try.func38, Try.ntmps38
  go_wp2_with fail
  refine (hM _).out.mono ?_
  rintro e w1 ⟨rfl, hb1⟩
  have hb4 := below_chain hb0 hb1
  go_wp2
  go_ret
  exact ⟨rfl, hb4⟩
end Go.Proofs.Ythkhafgcpmoalaa
