/- The law QueueTells returns true: Check, Put, Take and Wait answer what the document says. No conditions: true for all arguments. -/
import Derived.Test.YtknhohlpjhkmfaaQueueAny
import Derived.Test.YtknhohlpjhkmfaaQueueArgs
import Derived.Test.YtknhohlpjhkmfaaAsks
import Derived.Test.YtknhohlpjhkmfaaLaw
import Derived.Deep.DeepCutAuto
import Derived.Deep.RegionHeld3
namespace Go.Proofs.Ytknhohlpjhkmfaa
set_option maxRecDepth 100000
open Go.ChangeShapes Go.WideShapes Go.ChangeAt Go.RowKit

/-- The law's own structs, and the rows behind them. -/
structure QS (g p1 p2 p3 : Nat) (most m1 m2 : Int) (A D1 D2 E2 : Option Addr) (c d1 d2 : Nat) (l T1 T2 U2 : List Ak) (n v : Bytes) (x t : Nat) (W : World) : Prop where
  q : Bx W g [.int .i64 most, .slice A l.length c]
  a : Bx W (g + 1) [.string (S n), .string (S v), .int .u64 (x : Int), .int .u64 (t : Int)]
  x : Bx W p1 [.int .i64 m1, .slice D1 T1.length d1]
  y : Bx W p2 [.int .i64 m2, .slice D2 T2.length d2]
  z : Bx W p3 [.int .i64 0, .slice none 0 0]
  rA : Row W A (qcells l)
  rT : Row W D1 (qcells T1)
  rS : Row W D2 (qcells T2)
  rU : Row W E2 (qcells U2)
theorem QS.below {g p1 p2 p3 : Nat} {most m1 m2 : Int} {A D1 D2 E2 : Option Addr} {c d1 d2 : Nat} {l T1 T2 U2 : List Ak} {n v : Bytes} {x t : Nat} {W W' : World} (h : QS g p1 p2 p3 most m1 m2 A D1 D2 E2 c d1 d2 l T1 T2 U2 n v x t W) (hb : Below W.heap.size W W') :
    QS g p1 p2 p3 most m1 m2 A D1 D2 E2 c d1 d2 l T1 T2 U2 n v x t W' :=
  ⟨h.q.below hb, h.a.below hb, h.x.below hb, h.y.below hb, h.z.below hb, h.rA.below hb, h.rT.below hb, h.rS.below hb, h.rU.below hb⟩
theorem or_ok {wa wb wk : Int} : (decide (wa < 0) || decide (30 < wa) || decide (wb < 1) || decide (30 < wb) || decide (wk < 1) || decide (1000 < wk)) = false ↔ WaitOk wa wb wk := by
  simp only [Bool.or_eq_false_iff, decide_eq_false_iff_not]
  constructor
  · rintro ⟨⟨⟨⟨⟨h1, h2⟩, h3⟩, h4⟩, h5⟩, h6⟩
    exact ⟨⟨by omega, by omega⟩, ⟨by omega, by omega⟩, by omega, by omega⟩
  · rintro ⟨⟨h1, h2⟩, ⟨h3, h4⟩, h5, h6⟩
    exact ⟨⟨⟨⟨⟨by omega, by omega⟩, by omega⟩, by omega⟩, by omega⟩, by omega⟩

set_option maxHeartbeats 8000000 in
theorem queueTells_walk (most : Int) (A : Option Addr) (c : Nat) (l : List Ak) (n v : Bytes) (x t : Nat) (z wa wb wk : Int) (w : World) (hm : l.length ≤ maxLen) (hl : ∀ y ∈ l, (y.1.length ≤ maxLen ∧ y.2.1.length ≤ maxLen) ∧ y.2.2.1 < 18446744073709551616 ∧ y.2.2.2 < 18446744073709551616)
    (hc : l.length ≤ c) (hcm : c ≤ maxLen) (hn : n.length ≤ maxLen) (hv : v.length ≤ maxLen) (hA : Row w A (qcells l)) :
    Calls Try.prog 3 #[.agg #[.int .i64 most, .slice A l.length c], .agg #[.string (S n), .string (S v), .int .u64 (x : Int), .int .u64 (t : Int)], .int .i64 z, .int .i64 wa, .int .i64 wb, .int .i64 wk] w fun e w' => e = .returned (.bool true) ∧ Below w.heap.size w w' := by
  have hl' : ∀ y ∈ l, AkFits y := fun y hy => (hl y hy).1
  obtain ⟨⟨m1, T1, k1, e1⟩, hp⟩ : ∃ u, putRes most l (n, v, x, t) = u := ⟨_, rfl⟩
  obtain ⟨⟨m2, T2, U2, e2⟩, ht⟩ : ∃ u, takeRes most l z = u := ⟨_, rfl⟩
  obtain ⟨⟨wv, we⟩, hw⟩ : ∃ u, waitAns wa wb wk = u := ⟨_, rfl⟩
  obtain ⟨bad, hbad⟩ : ∃ u, qfault most l = u := ⟨_, rfl⟩
  obtain ⟨af, haf⟩ : ∃ u, askFault n v = u := ⟨_, rfl⟩
  have hP := fun (w : World) hA => Lib.hid (queuePut most A c l n v x t w hm hl' hn hv hA m1 T1 k1 e1 hp)
  have hT := fun (w : World) hA => Lib.hid (queueTake most A c l z w hm hl' hc hA m2 T2 U2 e2 ht)
  have hW := fun (w : World) => Lib.hid (queueWait wa wb wk w wv we hw)
  have hQ := fun (w : World) hA => Lib.hid (refQueueFault most A c l w hm hl' hA bad hbad)
  have hC := fun (w : World) hA => Lib.hid (queueCheck most A c l w hm hl' hA bad hbad)
  have hF := fun (w : World) => Lib.hid (refAskFault n v w hn hv af haf)
  have HPR := Lib.hid hp
  have HTR := Lib.hid ht
  have HW := Lib.hid hw
  have HB := Lib.hid hbad
  have HAF := Lib.hid haf
  unfold maxLen at hm hcm
  have hb0 : Below w.heap.size w ((w.alloc (.cells #[.int .i64 most, .slice A l.length c] 24)).alloc (.cells #[.string (S n), .string (S v), .int .u64 (x : Int), .int .u64 (t : Int)] 27)) := ((Below.refl _ _).alloc (Nat.le_refl _) _).alloc (by simp) _
  have hq0 := (Bx.new w _ rfl _ [.int .i64 most, .slice A l.length c] 24 rfl).alloc (.cells #[.string (S n), .string (S v), .int .u64 (x : Int), .int .u64 (t : Int)] 27)
  have ha0 := Bx.new (w.alloc (.cells #[.int .i64 most, .slice A l.length c] 24)) (w.heap.size + 1) (by simp) _ [.string (S n), .string (S v), .int .u64 (x : Int), .int .u64 (t : Int)] 27 rfl
  have hA0 := (hA.alloc (.cells #[.int .i64 most, .slice A l.length c] 24)).alloc (.cells #[.string (S n), .string (S v), .int .u64 (x : Int), .int .u64 (t : Int)] 27)
  obtain ⟨q0, q1⟩ := hq0.get2.1
  obtain ⟨a0, a1, a2, a3⟩ := ha0.get4.1
  clear hl hl' hn hv hp ht hw hbad haf hA
  go_enter Try.func3, Try.ntmps3
  go_wp2_with fail
  refine (hP _ hA0).out.mono ?_
  rintro e w2 ⟨D1, d1, rfl, hr1, hb1'⟩
  have hb1 := below_chain hb1' (balloc (Below.refl w2.heap.size w2) (.cells #[.int .i64 m1, .slice D1 T1.length d1] 24))
  have hq1 := hq0.below hb1
  have ha1 := ha0.below hb1
  have hA1 := hA0.below hb1
  have hx1 := Bx.new w2 _ rfl _ [.int .i64 m1, .slice D1 T1.length d1] 24 rfl
  have hr1' := hr1.alloc (.cells #[.int .i64 m1, .slice D1 T1.length d1] 24)
  have hb01 := below_chain hb0 hb1
  clear q0 q1 a0 a1 a2 a3 hq0 ha0 hA0 hb0 hr1 hb1' hP hb1
  obtain ⟨q0, q1⟩ := hq1.get2.1
  go_wp2_with fail
  refine (hT _ hA1).out.mono ?_
  rintro e w3 ⟨D2, d2, E2, f2, rfl, hr2, hu2, hb2'⟩
  have hb2 := below_chain hb2' (balloc (balloc (Below.refl w3.heap.size w3) (.cells #[.int .i64 m2, .slice D2 T2.length d2] 24)) (.cells #[.int .i64 0, .slice none 0 0] 24))
  have hS : QS w.heap.size w2.heap.size w3.heap.size (w3.heap.size + 1) most m1 m2 A D1 D2 E2 c d1 d2 l T1 T2 U2 n v x t ((w3.alloc (.cells #[.int .i64 m2, .slice D2 T2.length d2] 24)).alloc (.cells #[.int .i64 0, .slice none 0 0] 24)) :=
    ⟨hq1.below hb2, ha1.below hb2, hx1.below hb2, (Bx.new w3 _ rfl _ [.int .i64 m2, .slice D2 T2.length d2] 24 rfl).alloc (.cells #[.int .i64 0, .slice none 0 0] 24), Bx.new (w3.alloc (.cells #[.int .i64 m2, .slice D2 T2.length d2] 24)) _ (by simp) _ [.int .i64 0, .slice none 0 0] 24 rfl, hA1.below hb2, hr1'.below hb2, (hr2.alloc _).alloc _, (hu2.alloc _).alloc _⟩
  have hbX := below_chain hb01 hb2
  clear q0 q1 hq1 ha1 hA1 hx1 hr1' hr2 hu2 hb2' hb01 hT hb2
  go_wp2_with fail
  refine (hW _).out.mono ?_
  rintro e w4 ⟨rfl, hw4⟩
  subst hw4
  clear hW
  go_upto_region 5 with fail
  generalize (w3.alloc (.cells #[.int .i64 m2, .slice D2 T2.length d2] 24)).alloc (.cells #[.int .i64 0, .slice none 0 0] 24) = X at *
  generalize w3.heap.size + 1 = p3 at *
  generalize w3.heap.size = p2 at *
  generalize w2.heap.size = p1 at *
  obtain ⟨qb, hqb⟩ : ∃ qb, (decide (wa < 0) || decide (30 < wa) || decide (wb < 1) || decide (30 < wb) || decide (wk < 1) || decide (1000 < wk)) = qb := ⟨_, rfl⟩
  have HQB := Lib.hid hqb
  clear hqb
  go_cut [69] (fun b wx => b = .bool qb ∧ wx = X)
  case first =>
    as_aux_lemma =>
    clear hS hbX hQ hC hF HPR HTR HW HB HAF
    cases c1 : decide (wa < 0) with
    | true =>
      go_wp2_with fail
      go_meet
      case rel => exact ⟨by rw [← HQB.out, c1]; rfl, rfl⟩
    | false =>
    cases c2 : decide (30 < wa) with
    | true =>
      go_wp2_with fail
      go_meet
      case rel => exact ⟨by rw [← HQB.out, c1, c2]; rfl, rfl⟩
    | false =>
    cases c3 : decide (wb < 1) with
    | true =>
      go_wp2_with fail
      go_meet
      case rel => exact ⟨by rw [← HQB.out, c1, c2, c3]; rfl, rfl⟩
    | false =>
    cases c4 : decide (30 < wb) with
    | true =>
      go_wp2_with fail
      go_meet
      case rel => exact ⟨by rw [← HQB.out, c1, c2, c3, c4]; rfl, rfl⟩
    | false =>
    cases c5 : decide (wk < 1) with
    | true =>
      go_wp2_with fail
      go_meet
      case rel => exact ⟨by rw [← HQB.out, c1, c2, c3, c4, c5]; rfl, rfl⟩
    | false =>
    cases c6 : decide (1000 < wk) with
    | true =>
      go_wp2_with fail
      go_meet
      case rel => exact ⟨by rw [← HQB.out, c1, c2, c3, c4, c5, c6]; rfl, rfl⟩
    | false =>
    go_wp2_with fail
    go_meet
    case rel => exact ⟨by rw [← HQB.out, c1, c2, c3, c4, c5, c6]; rfl, rfl⟩
  case rest =>
    obtain ⟨rfl, hwc⟩ := hcut
    have hwc := hwc.symm
    subst hwc
    go_upto_if 69 with fail
    go_cut [] (fun wx => wx = X)
    case first =>
      cases qb with
      | true =>
        as_aux_lemma =>
        have hno : ¬ WaitOk wa wb wk := fun h => by have := or_ok.2 h; rw [HQB.out] at this; exact absurd this (by decide)
        have hwa := HW.out
        unfold waitAns at hwa
        rw [if_neg hno, Prod.mk.injEq] at hwa
        obtain ⟨rfl, rfl⟩ := hwa
        clear hno HQB HW hS hbX hQ hC hF HPR HTR HB HAF
        go_wp2_with fail
        go_meet
        case rel => rfl
      | false =>
        as_aux_lemma =>
        have hok : WaitOk wa wb wk := or_ok.1 HQB.out
        have hwa := HW.out
        unfold waitAns at hwa
        rw [if_pos hok, Prod.mk.injEq] at hwa
        obtain ⟨hv1, rfl⟩ := hwa
        obtain ⟨⟨r1, r2⟩, ⟨r3, r4⟩, r5, r6⟩ := hok
        obtain ⟨na, rfl⟩ : ∃ na : Nat, wa = (na : Int) := ⟨wa.toNat, by omega⟩
        obtain ⟨nb, rfl⟩ : ∃ nb : Nat, wb = (nb : Int) := ⟨wb.toNat, by omega⟩
        obtain ⟨nk, rfl⟩ : ∃ nk : Nat, wk = (nk : Int) := ⟨wk.toNat, by omega⟩
        obtain ⟨r, hr⟩ : ∃ r : Nat, (na / nb + 1) * nk = r := ⟨_, rfl⟩
        have hv2 : wv = (r : Int) := by rw [← hv1, Int.toNat_natCast, Int.toNat_natCast, Int.toNat_natCast, hr]
        subst hv2
        have hrb : r ≤ 31 * 1000 := by
          rw [← hr]
          exact Nat.mul_le_mul (by have := Nat.div_le_self na nb; omega) (by omega)
        have HR : Hid (nk + na / nb * nk = r) := by show _ = _; rw [← hr, Nat.add_mul, Nat.one_mul, Nat.add_comm]
        have hb30 : nb ≤ 30 := by omega
        have hk1000 : nk ≤ 1000 := by omega
        have hb1 : 1 ≤ nb := by omega
        have ha30 : na ≤ 30 := by omega
        clear hv1 hr r1 r2 r3 r4 r5 r6 HQB HW hS hbX hQ hC hF HPR HTR HB HAF
        go_wp2_with fail
        go_loopw [22, 23] (fun vw vl wx => ∃ want left : Nat, vw = .int .i64 want ∧ vl = .int .i64 left ∧ left ≤ 30 ∧ Hid (want + left / nb * nk = r) ∧ wx = X) (fun _ vl _ => (intOf vl).toNat)
        case atStart => exact ⟨nk, na, rfl, rfl, ha30, HR, rfl⟩
        case round =>
          obtain ⟨want, left, rfl, rfl, hl30, HI, hwx⟩ := hrel
          have hwx := hwx.symm
          subst hwx
          have hwb : want ≤ r := by have := HI.out; omega
          by_cases hlt : nb ≤ left
          · obtain ⟨left', rfl⟩ : ∃ left', left = left' + nb := ⟨left - nb, by omega⟩
            have HI2 : Hid (want + nk + left' / nb * nk = r) := by
              show _ = _
              rw [← HI.out, Nat.add_div_right _ hb1, Nat.succ_mul]
              omega
            have s1 : IntKind.i64.wrap ((want : Int) + (nk : Int)) = ((want + nk : Nat) : Int) := by rw [IntKind.wrap_i64]; omega
            have s2 : IntKind.i64.wrap (((left' + nb : Nat) : Int) - (nb : Int)) = (left' : Int) := by rw [IntKind.wrap_i64]; omega
            clear HI
            go_wp2
            go_roundw
            case rel => exact ⟨want + nk, left', by go_num, by go_num, by omega, HI2, (by trivial)⟩
            case measure => simp [intOf]; omega
          · have e : want = r := by
              have := HI.out
              rw [Nat.div_eq_of_lt (by omega), Nat.zero_mul] at this
              omega
            subst e
            go_wp2_with fail
            go_meet
            case rel => rfl
    case rest =>
      have hcut := hcut.symm
      subst hcut
      clear HQB HW
      obtain ⟨q0, q1⟩ := hS.q.get2.1
      go_wp2_with fail
      refine (hQ _ hS.rA).out.mono ?_
      rintro e w5 ⟨rfl, hb5⟩
      have hS5 := hS.below hb5
      have hb05 := below_chain hbX hb5
      clear hQ hS hbX hb5 q0 q1
      obtain ⟨q0, q1⟩ := hS5.q.get2.1
      go_wp2_with fail
      refine (hC _ hS5.rA).out.mono ?_
      rintro e w6 ⟨rfl, hb6⟩
      have hS6 := hS5.below hb6
      have hb06 := below_chain hb05 hb6
      clear hC hS5 hb05 hb6 q0 q1
      by_cases h0 : bad = 0
      case neg =>
        as_aux_lemma =>
        have hpe : putErr most l (n, v, x, t) = bad := by unfold putErr; rw [HB.out, if_neg h0]
        have hte : takeErr most l z = bad := by unfold takeErr; rw [HB.out, if_neg h0]
        have e1' := HPR.out
        have e2' := HTR.out
        unfold putRes at e1'
        unfold takeRes at e2'
        rw [hpe, if_neg h0] at e1'
        rw [hte, if_neg h0] at e2'
        simp only [Prod.mk.injEq] at e1' e2'
        obtain ⟨rfl, rfl, rfl, rfl⟩ := e1'
        obtain ⟨rfl, rfl, rfl, rfl⟩ := e2'
        have hN := fun (D : Option Addr) (d : Nat) (w : World) => (Lib.hid (refSameQueue 0 0 D none d 0 [] [] w (by simp) (Row.nil_ _ _) (Row.nil_ _ _) true rfl) : Hid (Calls Try.prog 11 #[.agg #[.int .i64 0, .slice D 0 d], .agg #[.int .i64 0, .slice none 0 0]] w fun e w' => e = .returned (.bool true) ∧ Below w.heap.size w w'))
        have cb : (bad != 0) = true := bne_iff_ne.2 h0
        have cbb : (bad == bad) = true := beq_self_eq_true bad
        have cbn : (bad != bad) = false := by simp
        clear hpe hte HPR HTR HB HAF hF h0
        obtain ⟨x0, x1⟩ := hS6.x.get2.1
        obtain ⟨z0, z1⟩ := hS6.z.get2.1
        rw [List.length_nil] at x1
        go_wp2_with fail
        refine (hN _ _ _).out.mono ?_
        rintro e w7 ⟨rfl, hb7⟩
        have hS7 := hS6.below hb7
        have hb07 := below_chain hb06 hb7
        clear hS6 hb06 hb7 x0 x1 z0 z1
        obtain ⟨y0, y1⟩ := hS7.y.get2.1
        obtain ⟨z0, z1⟩ := hS7.z.get2.1
        rw [List.length_nil] at y1
        go_wp2_with fail
        refine (hN _ _ _).out.mono ?_
        rintro e w8 ⟨rfl, hb8⟩
        go_wp2
        go_ret
        exact ⟨rfl, below_chain hb07 hb8⟩
      case pos =>
        subst h0
        have hg : QGood most l := (qfault_ok _ _).1 HB.out
        have hlen := hg.len
        have hm30 := hg.m30
        have hl30 : l.length ≤ 30 := by omega
        have cb : ((0 : Int) != 0) = false := rfl
        obtain ⟨a0, a1, a2, a3⟩ := hS6.a.get4.1
        go_wp2_with fail
        refine (hF _).out.mono ?_
        rintro e w7 ⟨rfl, hw7⟩
        subst hw7
        clear hF
        have hN := fun (D : Option Addr) (d : Nat) (w : World) => (Lib.hid (refSameQueue 0 0 D none d 0 [] [] w (by simp) (Row.nil_ _ _) (Row.nil_ _ _) true rfl) : Hid (Calls Try.prog 11 #[.agg #[.int .i64 0, .slice D 0 d], .agg #[.int .i64 0, .slice none 0 0]] w fun e w' => e = .returned (.bool true) ∧ Below w.heap.size w w'))
        by_cases hf : af = 0
        case neg =>
          as_aux_lemma =>
          have hpe : putErr most l (n, v, x, t) = af := by unfold putErr; rw [HB.out, if_pos rfl, HAF.out, if_neg hf]
          have cf : (af == 0) = false := beq_eq_false_iff_ne.2 hf
          have cf2 : (af != 0) = true := bne_iff_ne.2 hf
          have cf3 : (af != af) = false := by simp
          have e1' := HPR.out
          unfold putRes at e1'
          rw [hpe, if_neg (by exact hf)] at e1'
          simp only [Prod.mk.injEq] at e1'
          obtain ⟨rfl, rfl, rfl, rfl⟩ := e1'
          clear hpe HPR HAF
          obtain ⟨q0, q1⟩ := hS6.q.get2.1
          obtain ⟨x0, x1⟩ := hS6.x.get2.1
          obtain ⟨z0, z1⟩ := hS6.z.get2.1
          rw [List.length_nil] at x1
          go_wp2_with fail
          refine (hN _ _ _).out.mono ?_
          rintro e w8 ⟨rfl, hb8⟩
          have hS8 := hS6.below hb8
          have hb08 := below_chain hb06 hb8
          clear hS6 hb06 hb8 q0 q1 x0 x1 z0 z1 a0 a1 a2 a3
          by_cases hz : z < 0
          case pos =>
            have hte : takeErr most l z = 4 := by unfold takeErr; rw [HB.out, if_pos rfl, if_pos hz]
            have e2' := HTR.out
            unfold takeRes at e2'
            rw [hte, if_neg (by decide)] at e2'
            simp only [Prod.mk.injEq] at e2'
            obtain ⟨rfl, rfl, rfl, rfl⟩ := e2'
            clear hte HTR HB
            obtain ⟨y0, y1⟩ := hS8.y.get2.1
            obtain ⟨z0, z1⟩ := hS8.z.get2.1
            rw [List.length_nil] at y1
            go_wp2_with fail
            refine (hN _ _ _).out.mono ?_
            rintro e w9 ⟨rfl, hb9⟩
            go_wp2
            go_ret
            exact ⟨rfl, below_chain hb08 hb9⟩
          case neg =>
            have hte : takeErr most l z = 0 := by unfold takeErr; rw [HB.out, if_pos rfl, if_neg hz]
            have e2' := HTR.out
            unfold takeRes at e2'
            rw [hte, if_pos rfl] at e2'
            simp only [Prod.mk.injEq] at e2'
            obtain ⟨rfl, hT2, hU2, rfl⟩ := e2'
            obtain ⟨nz, rfl⟩ : ∃ nz : Nat, z = (nz : Int) := ⟨z.toNat, by omega⟩
            obtain ⟨j, hj⟩ : ∃ j, min nz l.length = j := ⟨_, rfl⟩
            rw [Int.toNat_natCast, hj] at hT2 hU2
            have hjl : j ≤ l.length := by omega
            have hT2l : T2.length = l.length - j := by rw [← hT2, List.length_drop]
            have hU2l : U2.length = j := by rw [← hU2, List.length_take]; omega
            have hmn : min (nz : Int) (l.length : Int) = (j : Int) := by omega
            have hn0 : decide ((nz : Int) < 0) = false := decide_eq_false (by omega)
            have hi0 : (0 : Int) ≤ (j : Int) := by omega
            have hi1 : (j : Int) ≤ (l.length : Int) := by omega
            have hi2 : (j : Int) ≤ (c : Int) := by omega
            have hi3 : (l.length : Int) ≤ (c : Int) := by omega
            have HU : Hid (∀ (w : World), Row w A (qcells l) → Row w A (qcells U2)) := fun w h => by rw [← hU2]; exact h.takeQ j
            have hSa := fun (E F : Option Addr) (f g : Nat) (w : World) hE hF' => (Lib.hid (Calls.mono (cast (by rw [hU2l]) (refSameAsks E F f g U2 U2 w (by unfold maxLen; omega) true (by simp) hE hF') : Calls Try.prog 14 #[.slice E U2.length f, .slice F j g] w fun e w' => e = .returned (.bool true) ∧ ∃ m, w' = w.drewN m) (fun e w' h => ⟨h.1, by obtain ⟨_, m, h2⟩ := h; rw [h2]; exact below_of_drewN _ _ _⟩)) : Hid (Calls Try.prog 14 #[.slice E U2.length f, .slice F j g] w fun e w' => e = .returned (.bool true) ∧ Below w.heap.size w w'))
            have hSq := fun (E F : Option Addr) (f g : Nat) (w : World) hE hF' => (Lib.hid (cast (by rw [hT2l]) (refSameQueue most most E F f g T2 T2 w (by unfold maxLen; omega) hE hF' true (by simp))) : Hid (Calls Try.prog 11 #[.agg #[.int .i64 most, .slice E T2.length f], .agg #[.int .i64 most, .slice F (l.length - j) g]] w fun e w' => e = .returned (.bool true) ∧ Below w.heap.size w w'))
            obtain ⟨q0, q1⟩ := hS8.q.get2.1
            obtain ⟨y0, y1⟩ := hS8.y.get2.1
            by_cases hcj : c = j
            case pos =>
              have HD : Hid (∀ (w : World), Row w A (qcells l) → Row w A (qcells T2)) := fun w h => by rw [← hT2, List.drop_eq_nil_of_le (by omega)]; exact Row.nil_ _ _
              clear hte HTR HB hg hz hj hT2 hU2 hT2l hU2l hlen hm30 hc
              have hcj' := hcj.symm
              subst hcj'
              clear hcj
              go_wp2
              refine wp_region_held_drew (S := fun W => W.cell? ⟨w.heap.size, 0, none⟩ = some (.int .i64 most) ∧ W.cell? ⟨w.heap.size, 1, none⟩ = some (.slice A l.length j) ∧ W.cell? ⟨p2, 0, none⟩ = some (.int .i64 most) ∧ W.cell? ⟨p2, 1, none⟩ = some (.slice D2 T2.length d2)) (by kernel_rfl) ⟨q0, q1, y0, y1⟩ (fun hHeld => ?_)
              refine wpAnyH_take (i := 0) (v := ?_) rfl (by kernel_rfl) (by kernel_rfl) (by kernel_rfl) (fun _ _ _ h => h) (Or.inl ⟨by rfl, ?_⟩) (by assumption) ?_
              rotate_left
              · intro wt hSt
                try dsimp only at hSt
                first | (go_simp; done) | (go_simp; with_reducible rfl)
              simp only [Act.put, List.setIfInBounds_toArray, List.set_cons_zero, List.set_cons_succ, List.getElem_toArray, List.getElem_cons_zero]
              refine wpAnyH_take (i := 1) (v := ?_) rfl (by kernel_rfl) (by kernel_rfl) (by kernel_rfl) (fun _ _ _ h => h) (Or.inl ⟨by rfl, ?_⟩) (by assumption) ?_
              rotate_left
              · intro wt hSt
                try dsimp only at hSt
                first | (go_simp; done) | (go_simp; with_reducible rfl)
              simp only [Act.put, List.setIfInBounds_toArray, List.set_cons_zero, List.set_cons_succ, List.getElem_toArray, List.getElem_cons_zero, List.getElem_cons_succ]
              refine wpAnyH_take (i := 2) (v := ?_) rfl (by kernel_rfl) (by kernel_rfl) (by kernel_rfl) (fun _ _ _ h => h) (Or.inl ⟨by rfl, ?_⟩) (by assumption) ?_
              rotate_left
              · intro wt hSt
                try dsimp only at hSt
                first | (go_simp; done) | (go_simp; with_reducible rfl)
              simp only [Act.put, List.setIfInBounds_toArray, List.set_cons_zero, List.set_cons_succ, List.getElem_toArray, List.getElem_cons_zero, List.getElem_cons_succ]
              refine wpAnyH_take (i := 3) (v := ?_) rfl (by kernel_rfl) (by kernel_rfl) (by kernel_rfl) (fun _ _ _ h => h) (Or.inl ⟨by rfl, ?_⟩) (by assumption) ?_
              rotate_left
              · intro wt hSt
                try dsimp only at hSt
                first | (go_simp; done) | (go_simp; with_reducible rfl)
              simp only [Act.put, List.setIfInBounds_toArray, List.set_cons_zero, List.set_cons_succ, List.getElem_toArray, List.getElem_cons_zero, List.getElem_cons_succ]
              refine wpAnyH_take (i := 4) (v := ?_) rfl (by kernel_rfl) (by kernel_rfl) (by kernel_rfl) (fun _ _ _ h => h) (Or.inl ⟨by rfl, ?_⟩) (by assumption) ?_
              rotate_left
              · intro wt hSt
                try dsimp only at hSt
                first | (go_simp; done) | (go_simp; with_reducible rfl)
              simp only [Act.put, List.setIfInBounds_toArray, List.set_cons_zero, List.set_cons_succ, List.getElem_toArray, List.getElem_cons_zero, List.getElem_cons_succ]
              refine wpAnyH_take (i := 5) (v := ?_) rfl (by kernel_rfl) (by kernel_rfl) (by kernel_rfl) (fun _ _ _ h => h) (Or.inl ⟨by rfl, ?_⟩) (by assumption) ?_
              rotate_left
              · intro wt hSt
                try dsimp only at hSt
                first | (go_simp; done) | (go_simp; with_reducible rfl)
              simp only [Act.put, List.setIfInBounds_toArray, List.set_cons_zero, List.set_cons_succ, List.getElem_toArray, List.getElem_cons_zero, List.getElem_cons_succ]
              refine wpAnyH_take (i := 6) (v := ?_) rfl (by kernel_rfl) (by kernel_rfl) (by kernel_rfl) (fun _ _ _ h => h) (Or.inl ⟨by rfl, ?_⟩) (by assumption) ?_
              rotate_left
              · intro wt hSt
                try dsimp only at hSt
                first | (go_simp; done) | (go_simp; with_reducible rfl)
              simp only [Act.put, List.setIfInBounds_toArray, List.set_cons_zero, List.set_cons_succ, List.getElem_toArray, List.getElem_cons_zero, List.getElem_cons_succ]
              refine wpAnyH_take (i := 7) (v := ?_) rfl (by kernel_rfl) (by kernel_rfl) (by kernel_rfl) (fun _ _ _ h => h) (Or.inl ⟨by rfl, ?_⟩) (by assumption) ?_
              rotate_left
              · intro wt hSt
                try dsimp only at hSt
                first | (go_simp; done) | (go_simp; with_reducible rfl)
              simp only [Act.put, List.setIfInBounds_toArray, List.set_cons_zero, List.set_cons_succ, List.getElem_toArray, List.getElem_cons_zero, List.getElem_cons_succ]
              refine wpAnyH_ready (rs := [8]) (by kernel_rfl) (by simp) ?_
              refine AllReadyH.cons rfl (fun K hK => ?_) AllReadyH.nil
              go_simp
              go_at_call 14
              refine (hSa _ _ _ _ _ (hS8.rU.drewN 1) (HU.out _ (hS8.rA.drewN 1))).out.mono ?_
              rintro e w9 ⟨rfl, hb9'⟩
              have hb9 : Below w8.heap.size w8 w9 := below_chain (bdrew (Below.refl _ _)) hb9'
              go_wp2_with fail
              refine hK.out _ _ ⟨(hS8.q.below hb9).get2.1.1, (hS8.q.below hb9).get2.1.2, (hS8.y.below hb9).get2.1.1, (hS8.y.below hb9).get2.1.2⟩ (fun hHeld => ?_)
              clear hK K
              refine wpAnyH_take (i := 9) (v := ?_) rfl (by kernel_rfl) (by kernel_rfl) (by kernel_rfl) (fun _ _ _ h => h) (Or.inl ⟨by rfl, ?_⟩) (by assumption) ?_
              rotate_left
              · intro wt hSt
                try dsimp only at hSt
                first | (go_simp; done) | (go_simp; with_reducible rfl)
              simp only [Act.put, List.setIfInBounds_toArray, List.set_cons_zero, List.set_cons_succ, List.getElem_toArray, List.getElem_cons_zero, List.getElem_cons_succ]
              refine wpAnyH_take (i := 10) (v := ?_) rfl (by kernel_rfl) (by kernel_rfl) (by kernel_rfl) (fun _ _ _ h => h) (Or.inl ⟨by rfl, ?_⟩) (by assumption) ?_
              rotate_left
              · intro wt hSt
                try dsimp only at hSt
                first | (go_simp; done) | (go_simp; with_reducible rfl)
              simp only [Act.put, List.setIfInBounds_toArray, List.set_cons_zero, List.set_cons_succ, List.getElem_toArray, List.getElem_cons_zero, List.getElem_cons_succ]
              refine wpAnyH_take (i := 11) (v := ?_) rfl (by kernel_rfl) (by kernel_rfl) (by kernel_rfl) (fun _ _ _ h => h) (Or.inl ⟨by rfl, ?_⟩) (by assumption) ?_
              rotate_left
              · intro wt hSt
                try dsimp only at hSt
                first | (go_simp; done) | (go_simp; with_reducible rfl)
              simp only [Act.put, List.setIfInBounds_toArray, List.set_cons_zero, List.set_cons_succ, List.getElem_toArray, List.getElem_cons_zero, List.getElem_cons_succ]
              refine wpAnyH_take (i := 12) (v := ?_) rfl (by kernel_rfl) (by kernel_rfl) (by kernel_rfl) (fun _ _ _ h => h) (Or.inl ⟨by rfl, ?_⟩) (by assumption) ?_
              rotate_left
              · intro wt hSt
                try dsimp only at hSt
                first | (go_simp; done) | (go_simp; with_reducible rfl)
              simp only [Act.put, List.setIfInBounds_toArray, List.set_cons_zero, List.set_cons_succ, List.getElem_toArray, List.getElem_cons_zero, List.getElem_cons_succ]
              refine wpAnyH_take (i := 13) (v := ?_) rfl (by kernel_rfl) (by kernel_rfl) (by kernel_rfl) (fun _ _ _ h => h) (Or.inl ⟨by rfl, ?_⟩) (by assumption) ?_
              rotate_left
              · intro wt hSt
                try dsimp only at hSt
                first | (go_simp; done) | (go_simp; with_reducible rfl)
              simp only [Act.put, List.setIfInBounds_toArray, List.set_cons_zero, List.set_cons_succ, List.getElem_toArray, List.getElem_cons_zero, List.getElem_cons_succ]
              refine wpAnyH_take (i := 14) (v := ?_) rfl (by kernel_rfl) (by kernel_rfl) (by kernel_rfl) (fun _ _ _ h => h) (Or.inl ⟨by rfl, ?_⟩) (by assumption) ?_
              rotate_left
              · intro wt hSt
                try dsimp only at hSt
                first | (go_simp; done) | (go_simp; with_reducible rfl)
              simp only [Act.put, List.setIfInBounds_toArray, List.set_cons_zero, List.set_cons_succ, List.getElem_toArray, List.getElem_cons_zero, List.getElem_cons_succ]
              refine wpAnyH_take (i := 15) (v := ?_) rfl (by kernel_rfl) (by kernel_rfl) (by kernel_rfl) (fun _ _ _ h => h) (Or.inl ⟨by rfl, ?_⟩) (by assumption) ?_
              rotate_left
              · intro wt hSt
                try dsimp only at hSt
                first | (go_simp; done) | (go_simp; with_reducible rfl)
              simp only [Act.put, List.setIfInBounds_toArray, List.set_cons_zero, List.set_cons_succ, List.getElem_toArray, List.getElem_cons_zero, List.getElem_cons_succ]
              refine wpAnyH_take (i := 16) (v := ?_) rfl (by kernel_rfl) (by kernel_rfl) (by kernel_rfl) (fun _ _ _ h => h) (Or.inl ⟨by rfl, ?_⟩) (by assumption) ?_
              rotate_left
              · intro wt hSt
                try dsimp only at hSt
                first | (go_simp; done) | (go_simp; with_reducible rfl)
              simp only [Act.put, List.setIfInBounds_toArray, List.set_cons_zero, List.set_cons_succ, List.getElem_toArray, List.getElem_cons_zero, List.getElem_cons_succ]
              refine wpAnyH_take (i := 17) (v := ?_) rfl (by kernel_rfl) (by kernel_rfl) (by kernel_rfl) (fun _ _ _ h => h) (Or.inl ⟨by rfl, ?_⟩) (by assumption) ?_
              rotate_left
              · intro wt hSt
                try dsimp only at hSt
                first | (go_simp; done) | (go_simp; with_reducible rfl)
              simp only [Act.put, List.setIfInBounds_toArray, List.set_cons_zero, List.set_cons_succ, List.getElem_toArray, List.getElem_cons_zero, List.getElem_cons_succ]
              refine wpAnyH_take (i := 18) (v := ?_) rfl (by kernel_rfl) (by kernel_rfl) (by kernel_rfl) (fun _ _ _ h => h) (Or.inl ⟨by rfl, ?_⟩) (by assumption) ?_
              rotate_left
              · intro wt hSt
                try dsimp only at hSt
                first | (go_simp; done) | (go_simp; with_reducible rfl)
              simp only [Act.put, List.setIfInBounds_toArray, List.set_cons_zero, List.set_cons_succ, List.getElem_toArray, List.getElem_cons_zero, List.getElem_cons_succ]
              refine wpAnyH_ready (rs := [19]) (by kernel_rfl) (by simp) ?_
              refine AllReadyH.cons rfl (fun K hK => ?_) AllReadyH.nil
              go_simp
              go_at_call 11
              refine (hSq _ _ _ _ _ (hS8.rS.below hb9) (HD.out _ (hS8.rA.below hb9))).out.mono ?_
              rintro e w10 ⟨rfl, hb10'⟩
              have hb10 := below_chain hb9 hb10'
              go_wp2_with fail
              refine hK.out _ _ ⟨(hS8.q.below hb10).get2.1.1, (hS8.q.below hb10).get2.1.2, (hS8.y.below hb10).get2.1.1, (hS8.y.below hb10).get2.1.2⟩ (fun hHeld => ?_)
              clear hK K
              refine wpAnyH_take (i := 20) (v := ?_) rfl (by kernel_rfl) (by kernel_rfl) (by kernel_rfl) (fun _ _ _ h => h) (Or.inl ⟨by rfl, ?_⟩) (by assumption) ?_
              rotate_left
              · intro wt hSt
                try dsimp only at hSt
                first | (go_simp; done) | (go_simp; with_reducible rfl)
              simp only [Act.put, List.setIfInBounds_toArray, List.set_cons_zero, List.set_cons_succ, List.getElem_toArray, List.getElem_cons_zero, List.getElem_cons_succ]
              refine wpAnyH_take (i := 21) (v := ?_) rfl (by kernel_rfl) (by kernel_rfl) (by kernel_rfl) (fun _ _ _ h => h) (Or.inl ⟨by rfl, ?_⟩) (by assumption) ?_
              rotate_left
              · intro wt hSt
                try dsimp only at hSt
                first | (go_simp; done) | (go_simp; with_reducible rfl)
              simp only [Act.put, List.setIfInBounds_toArray, List.set_cons_zero, List.set_cons_succ, List.getElem_toArray, List.getElem_cons_zero, List.getElem_cons_succ]
              refine wpAnyH_done (by kernel_rfl) ?_ _
              go_wp2
              go_ret
              exact ⟨rfl, below_chain hb08 hb10⟩
            case neg =>
              have HD : Hid (∀ (w : World), Row w A (qcells l) → Row w (A.map (·.add (j * 4))) (qcells T2)) := fun w h => by rw [← hT2]; exact h.dropQ j
              clear hte HTR HB hg hz hj hT2 hU2 hT2l hU2l hlen hm30 hc
              go_wp2
              refine wp_region_held_drew (S := fun W => W.cell? ⟨w.heap.size, 0, none⟩ = some (.int .i64 most) ∧ W.cell? ⟨w.heap.size, 1, none⟩ = some (.slice A l.length c) ∧ W.cell? ⟨p2, 0, none⟩ = some (.int .i64 most) ∧ W.cell? ⟨p2, 1, none⟩ = some (.slice D2 T2.length d2)) (by kernel_rfl) ⟨q0, q1, y0, y1⟩ (fun hHeld => ?_)
              refine wpAnyH_take (i := 0) (v := ?_) rfl (by kernel_rfl) (by kernel_rfl) (by kernel_rfl) (fun _ _ _ h => h) (Or.inl ⟨by rfl, ?_⟩) (by assumption) ?_
              rotate_left
              · intro wt hSt
                try dsimp only at hSt
                first | (go_simp; done) | (go_simp; with_reducible rfl)
              simp only [Act.put, List.setIfInBounds_toArray, List.set_cons_zero, List.set_cons_succ, List.getElem_toArray, List.getElem_cons_zero]
              refine wpAnyH_take (i := 1) (v := ?_) rfl (by kernel_rfl) (by kernel_rfl) (by kernel_rfl) (fun _ _ _ h => h) (Or.inl ⟨by rfl, ?_⟩) (by assumption) ?_
              rotate_left
              · intro wt hSt
                try dsimp only at hSt
                first | (go_simp; done) | (go_simp; with_reducible rfl)
              simp only [Act.put, List.setIfInBounds_toArray, List.set_cons_zero, List.set_cons_succ, List.getElem_toArray, List.getElem_cons_zero, List.getElem_cons_succ]
              refine wpAnyH_take (i := 2) (v := ?_) rfl (by kernel_rfl) (by kernel_rfl) (by kernel_rfl) (fun _ _ _ h => h) (Or.inl ⟨by rfl, ?_⟩) (by assumption) ?_
              rotate_left
              · intro wt hSt
                try dsimp only at hSt
                first | (go_simp; done) | (go_simp; with_reducible rfl)
              simp only [Act.put, List.setIfInBounds_toArray, List.set_cons_zero, List.set_cons_succ, List.getElem_toArray, List.getElem_cons_zero, List.getElem_cons_succ]
              refine wpAnyH_take (i := 3) (v := ?_) rfl (by kernel_rfl) (by kernel_rfl) (by kernel_rfl) (fun _ _ _ h => h) (Or.inl ⟨by rfl, ?_⟩) (by assumption) ?_
              rotate_left
              · intro wt hSt
                try dsimp only at hSt
                first | (go_simp; done) | (go_simp; with_reducible rfl)
              simp only [Act.put, List.setIfInBounds_toArray, List.set_cons_zero, List.set_cons_succ, List.getElem_toArray, List.getElem_cons_zero, List.getElem_cons_succ]
              refine wpAnyH_take (i := 4) (v := ?_) rfl (by kernel_rfl) (by kernel_rfl) (by kernel_rfl) (fun _ _ _ h => h) (Or.inl ⟨by rfl, ?_⟩) (by assumption) ?_
              rotate_left
              · intro wt hSt
                try dsimp only at hSt
                first | (go_simp; done) | (go_simp; with_reducible rfl)
              simp only [Act.put, List.setIfInBounds_toArray, List.set_cons_zero, List.set_cons_succ, List.getElem_toArray, List.getElem_cons_zero, List.getElem_cons_succ]
              refine wpAnyH_take (i := 5) (v := ?_) rfl (by kernel_rfl) (by kernel_rfl) (by kernel_rfl) (fun _ _ _ h => h) (Or.inl ⟨by rfl, ?_⟩) (by assumption) ?_
              rotate_left
              · intro wt hSt
                try dsimp only at hSt
                first | (go_simp; done) | (go_simp; with_reducible rfl)
              simp only [Act.put, List.setIfInBounds_toArray, List.set_cons_zero, List.set_cons_succ, List.getElem_toArray, List.getElem_cons_zero, List.getElem_cons_succ]
              refine wpAnyH_take (i := 6) (v := ?_) rfl (by kernel_rfl) (by kernel_rfl) (by kernel_rfl) (fun _ _ _ h => h) (Or.inl ⟨by rfl, ?_⟩) (by assumption) ?_
              rotate_left
              · intro wt hSt
                try dsimp only at hSt
                first | (go_simp; done) | (go_simp; with_reducible rfl)
              simp only [Act.put, List.setIfInBounds_toArray, List.set_cons_zero, List.set_cons_succ, List.getElem_toArray, List.getElem_cons_zero, List.getElem_cons_succ]
              refine wpAnyH_take (i := 7) (v := ?_) rfl (by kernel_rfl) (by kernel_rfl) (by kernel_rfl) (fun _ _ _ h => h) (Or.inl ⟨by rfl, ?_⟩) (by assumption) ?_
              rotate_left
              · intro wt hSt
                try dsimp only at hSt
                first | (go_simp; done) | (go_simp; with_reducible rfl)
              simp only [Act.put, List.setIfInBounds_toArray, List.set_cons_zero, List.set_cons_succ, List.getElem_toArray, List.getElem_cons_zero, List.getElem_cons_succ]
              refine wpAnyH_ready (rs := [8]) (by kernel_rfl) (by simp) ?_
              refine AllReadyH.cons rfl (fun K hK => ?_) AllReadyH.nil
              go_simp
              go_at_call 14
              refine (hSa _ _ _ _ _ (hS8.rU.drewN 1) (HU.out _ (hS8.rA.drewN 1))).out.mono ?_
              rintro e w9 ⟨rfl, hb9'⟩
              have hb9 : Below w8.heap.size w8 w9 := below_chain (bdrew (Below.refl _ _)) hb9'
              go_wp2_with fail
              refine hK.out _ _ ⟨(hS8.q.below hb9).get2.1.1, (hS8.q.below hb9).get2.1.2, (hS8.y.below hb9).get2.1.1, (hS8.y.below hb9).get2.1.2⟩ (fun hHeld => ?_)
              clear hK K
              refine wpAnyH_take (i := 9) (v := ?_) rfl (by kernel_rfl) (by kernel_rfl) (by kernel_rfl) (fun _ _ _ h => h) (Or.inl ⟨by rfl, ?_⟩) (by assumption) ?_
              rotate_left
              · intro wt hSt
                try dsimp only at hSt
                first | (go_simp; done) | (go_simp; with_reducible rfl)
              simp only [Act.put, List.setIfInBounds_toArray, List.set_cons_zero, List.set_cons_succ, List.getElem_toArray, List.getElem_cons_zero, List.getElem_cons_succ]
              refine wpAnyH_take (i := 10) (v := ?_) rfl (by kernel_rfl) (by kernel_rfl) (by kernel_rfl) (fun _ _ _ h => h) (Or.inl ⟨by rfl, ?_⟩) (by assumption) ?_
              rotate_left
              · intro wt hSt
                try dsimp only at hSt
                first | (go_simp; done) | (go_simp; with_reducible rfl)
              simp only [Act.put, List.setIfInBounds_toArray, List.set_cons_zero, List.set_cons_succ, List.getElem_toArray, List.getElem_cons_zero, List.getElem_cons_succ]
              refine wpAnyH_take (i := 11) (v := ?_) rfl (by kernel_rfl) (by kernel_rfl) (by kernel_rfl) (fun _ _ _ h => h) (Or.inl ⟨by rfl, ?_⟩) (by assumption) ?_
              rotate_left
              · intro wt hSt
                try dsimp only at hSt
                first | (go_simp; done) | (go_simp; with_reducible rfl)
              simp only [Act.put, List.setIfInBounds_toArray, List.set_cons_zero, List.set_cons_succ, List.getElem_toArray, List.getElem_cons_zero, List.getElem_cons_succ]
              refine wpAnyH_take (i := 12) (v := ?_) rfl (by kernel_rfl) (by kernel_rfl) (by kernel_rfl) (fun _ _ _ h => h) (Or.inl ⟨by rfl, ?_⟩) (by assumption) ?_
              rotate_left
              · intro wt hSt
                try dsimp only at hSt
                first | (go_simp; done) | (go_simp; with_reducible rfl)
              simp only [Act.put, List.setIfInBounds_toArray, List.set_cons_zero, List.set_cons_succ, List.getElem_toArray, List.getElem_cons_zero, List.getElem_cons_succ]
              refine wpAnyH_take (i := 13) (v := ?_) rfl (by kernel_rfl) (by kernel_rfl) (by kernel_rfl) (fun _ _ _ h => h) (Or.inl ⟨by rfl, ?_⟩) (by assumption) ?_
              rotate_left
              · intro wt hSt
                try dsimp only at hSt
                first | (go_simp; done) | (go_simp; with_reducible rfl)
              simp only [Act.put, List.setIfInBounds_toArray, List.set_cons_zero, List.set_cons_succ, List.getElem_toArray, List.getElem_cons_zero, List.getElem_cons_succ]
              refine wpAnyH_take (i := 14) (v := ?_) rfl (by kernel_rfl) (by kernel_rfl) (by kernel_rfl) (fun _ _ _ h => h) (Or.inl ⟨by rfl, ?_⟩) (by assumption) ?_
              rotate_left
              · intro wt hSt
                try dsimp only at hSt
                first | (go_simp; done) | (go_simp; with_reducible rfl)
              simp only [Act.put, List.setIfInBounds_toArray, List.set_cons_zero, List.set_cons_succ, List.getElem_toArray, List.getElem_cons_zero, List.getElem_cons_succ]
              refine wpAnyH_take (i := 15) (v := ?_) rfl (by kernel_rfl) (by kernel_rfl) (by kernel_rfl) (fun _ _ _ h => h) (Or.inl ⟨by rfl, ?_⟩) (by assumption) ?_
              rotate_left
              · intro wt hSt
                try dsimp only at hSt
                first | (go_simp; done) | (go_simp; with_reducible rfl)
              simp only [Act.put, List.setIfInBounds_toArray, List.set_cons_zero, List.set_cons_succ, List.getElem_toArray, List.getElem_cons_zero, List.getElem_cons_succ]
              refine wpAnyH_take (i := 16) (v := ?_) rfl (by kernel_rfl) (by kernel_rfl) (by kernel_rfl) (fun _ _ _ h => h) (Or.inl ⟨by rfl, ?_⟩) (by assumption) ?_
              rotate_left
              · intro wt hSt
                try dsimp only at hSt
                first | (go_simp; done) | (go_simp; with_reducible rfl)
              simp only [Act.put, List.setIfInBounds_toArray, List.set_cons_zero, List.set_cons_succ, List.getElem_toArray, List.getElem_cons_zero, List.getElem_cons_succ]
              refine wpAnyH_take (i := 17) (v := ?_) rfl (by kernel_rfl) (by kernel_rfl) (by kernel_rfl) (fun _ _ _ h => h) (Or.inl ⟨by rfl, ?_⟩) (by assumption) ?_
              rotate_left
              · intro wt hSt
                try dsimp only at hSt
                first | (go_simp; done) | (go_simp; with_reducible rfl)
              simp only [Act.put, List.setIfInBounds_toArray, List.set_cons_zero, List.set_cons_succ, List.getElem_toArray, List.getElem_cons_zero, List.getElem_cons_succ]
              refine wpAnyH_take (i := 18) (v := ?_) rfl (by kernel_rfl) (by kernel_rfl) (by kernel_rfl) (fun _ _ _ h => h) (Or.inl ⟨by rfl, ?_⟩) (by assumption) ?_
              rotate_left
              · intro wt hSt
                try dsimp only at hSt
                first | (go_simp; done) | (go_simp; with_reducible rfl)
              simp only [Act.put, List.setIfInBounds_toArray, List.set_cons_zero, List.set_cons_succ, List.getElem_toArray, List.getElem_cons_zero, List.getElem_cons_succ]
              refine wpAnyH_ready (rs := [19]) (by kernel_rfl) (by simp) ?_
              refine AllReadyH.cons rfl (fun K hK => ?_) AllReadyH.nil
              go_simp
              go_at_call 11
              refine (hSq _ _ _ _ _ (hS8.rS.below hb9) (HD.out _ (hS8.rA.below hb9))).out.mono ?_
              rintro e w10 ⟨rfl, hb10'⟩
              have hb10 := below_chain hb9 hb10'
              go_wp2_with fail
              refine hK.out _ _ ⟨(hS8.q.below hb10).get2.1.1, (hS8.q.below hb10).get2.1.2, (hS8.y.below hb10).get2.1.1, (hS8.y.below hb10).get2.1.2⟩ (fun hHeld => ?_)
              clear hK K
              refine wpAnyH_take (i := 20) (v := ?_) rfl (by kernel_rfl) (by kernel_rfl) (by kernel_rfl) (fun _ _ _ h => h) (Or.inl ⟨by rfl, ?_⟩) (by assumption) ?_
              rotate_left
              · intro wt hSt
                try dsimp only at hSt
                first | (go_simp; done) | (go_simp; with_reducible rfl)
              simp only [Act.put, List.setIfInBounds_toArray, List.set_cons_zero, List.set_cons_succ, List.getElem_toArray, List.getElem_cons_zero, List.getElem_cons_succ]
              refine wpAnyH_take (i := 21) (v := ?_) rfl (by kernel_rfl) (by kernel_rfl) (by kernel_rfl) (fun _ _ _ h => h) (Or.inl ⟨by rfl, ?_⟩) (by assumption) ?_
              rotate_left
              · intro wt hSt
                try dsimp only at hSt
                first | (go_simp; done) | (go_simp; with_reducible rfl)
              simp only [Act.put, List.setIfInBounds_toArray, List.set_cons_zero, List.set_cons_succ, List.getElem_toArray, List.getElem_cons_zero, List.getElem_cons_succ]
              refine wpAnyH_done (by kernel_rfl) ?_ _
              go_wp2
              go_ret
              exact ⟨rfl, below_chain hb08 hb10⟩
        case pos =>
          by_cases hfull : (l.length : Int) = most
          case pos =>
            as_aux_lemma =>
            subst hf
            have hpe : putErr most l (n, v, x, t) = 7 := by unfold putErr; rw [HB.out, if_pos rfl, HAF.out, if_pos rfl, if_pos hfull]
            have cf : ((l.length : Int) == most) = true := beq_iff_eq.2 hfull
            clear hfull
            have e1' := HPR.out
            unfold putRes at e1'
            rw [hpe, if_neg (by decide)] at e1'
            simp only [Prod.mk.injEq] at e1'
            obtain ⟨rfl, rfl, rfl, rfl⟩ := e1'
            clear hpe HPR HAF
            obtain ⟨q0, q1⟩ := hS6.q.get2.1
            obtain ⟨x0, x1⟩ := hS6.x.get2.1
            obtain ⟨z0, z1⟩ := hS6.z.get2.1
            rw [List.length_nil] at x1
            go_wp2_with fail
            refine (hN _ _ _).out.mono ?_
            rintro e w8 ⟨rfl, hb8⟩
            have hS8 := hS6.below hb8
            have hb08 := below_chain hb06 hb8
            clear hS6 hb06 hb8 q0 q1 x0 x1 z0 z1 a0 a1 a2 a3
            by_cases hz : z < 0
            case pos =>
              have hte : takeErr most l z = 4 := by unfold takeErr; rw [HB.out, if_pos rfl, if_pos hz]
              have e2' := HTR.out
              unfold takeRes at e2'
              rw [hte, if_neg (by decide)] at e2'
              simp only [Prod.mk.injEq] at e2'
              obtain ⟨rfl, rfl, rfl, rfl⟩ := e2'
              clear hte HTR HB
              obtain ⟨y0, y1⟩ := hS8.y.get2.1
              obtain ⟨z0, z1⟩ := hS8.z.get2.1
              rw [List.length_nil] at y1
              go_wp2_with fail
              refine (hN _ _ _).out.mono ?_
              rintro e w9 ⟨rfl, hb9⟩
              go_wp2
              go_ret
              exact ⟨rfl, below_chain hb08 hb9⟩
            case neg =>
              have hte : takeErr most l z = 0 := by unfold takeErr; rw [HB.out, if_pos rfl, if_neg hz]
              have e2' := HTR.out
              unfold takeRes at e2'
              rw [hte, if_pos rfl] at e2'
              simp only [Prod.mk.injEq] at e2'
              obtain ⟨rfl, hT2, hU2, rfl⟩ := e2'
              obtain ⟨nz, rfl⟩ : ∃ nz : Nat, z = (nz : Int) := ⟨z.toNat, by omega⟩
              obtain ⟨j, hj⟩ : ∃ j, min nz l.length = j := ⟨_, rfl⟩
              rw [Int.toNat_natCast, hj] at hT2 hU2
              have hjl : j ≤ l.length := by omega
              have hT2l : T2.length = l.length - j := by rw [← hT2, List.length_drop]
              have hU2l : U2.length = j := by rw [← hU2, List.length_take]; omega
              have hmn : min (nz : Int) (l.length : Int) = (j : Int) := by omega
              have hn0 : decide ((nz : Int) < 0) = false := decide_eq_false (by omega)
              have hi0 : (0 : Int) ≤ (j : Int) := by omega
              have hi1 : (j : Int) ≤ (l.length : Int) := by omega
              have hi2 : (j : Int) ≤ (c : Int) := by omega
              have hi3 : (l.length : Int) ≤ (c : Int) := by omega
              have HU : Hid (∀ (w : World), Row w A (qcells l) → Row w A (qcells U2)) := fun w h => by rw [← hU2]; exact h.takeQ j
              have hSa := fun (E F : Option Addr) (f g : Nat) (w : World) hE hF' => (Lib.hid (Calls.mono (cast (by rw [hU2l]) (refSameAsks E F f g U2 U2 w (by unfold maxLen; omega) true (by simp) hE hF') : Calls Try.prog 14 #[.slice E U2.length f, .slice F j g] w fun e w' => e = .returned (.bool true) ∧ ∃ m, w' = w.drewN m) (fun e w' h => ⟨h.1, by obtain ⟨_, m, h2⟩ := h; rw [h2]; exact below_of_drewN _ _ _⟩)) : Hid (Calls Try.prog 14 #[.slice E U2.length f, .slice F j g] w fun e w' => e = .returned (.bool true) ∧ Below w.heap.size w w'))
              have hSq := fun (E F : Option Addr) (f g : Nat) (w : World) hE hF' => (Lib.hid (cast (by rw [hT2l]) (refSameQueue most most E F f g T2 T2 w (by unfold maxLen; omega) hE hF' true (by simp))) : Hid (Calls Try.prog 11 #[.agg #[.int .i64 most, .slice E T2.length f], .agg #[.int .i64 most, .slice F (l.length - j) g]] w fun e w' => e = .returned (.bool true) ∧ Below w.heap.size w w'))
              obtain ⟨q0, q1⟩ := hS8.q.get2.1
              obtain ⟨y0, y1⟩ := hS8.y.get2.1
              by_cases hcj : c = j
              case pos =>
                have HD : Hid (∀ (w : World), Row w A (qcells l) → Row w A (qcells T2)) := fun w h => by rw [← hT2, List.drop_eq_nil_of_le (by omega)]; exact Row.nil_ _ _
                clear hte HTR HB hg hz hj hT2 hU2 hT2l hU2l hlen hm30 hc
                have hcj' := hcj.symm
                subst hcj'
                clear hcj
                go_wp2
                refine wp_region_held_drew (S := fun W => W.cell? ⟨w.heap.size, 0, none⟩ = some (.int .i64 most) ∧ W.cell? ⟨w.heap.size, 1, none⟩ = some (.slice A l.length j) ∧ W.cell? ⟨p2, 0, none⟩ = some (.int .i64 most) ∧ W.cell? ⟨p2, 1, none⟩ = some (.slice D2 T2.length d2)) (by kernel_rfl) ⟨q0, q1, y0, y1⟩ (fun hHeld => ?_)
                refine wpAnyH_take (i := 0) (v := ?_) rfl (by kernel_rfl) (by kernel_rfl) (by kernel_rfl) (fun _ _ _ h => h) (Or.inl ⟨by rfl, ?_⟩) (by assumption) ?_
                rotate_left
                · intro wt hSt
                  try dsimp only at hSt
                  first | (go_simp; done) | (go_simp; with_reducible rfl)
                simp only [Act.put, List.setIfInBounds_toArray, List.set_cons_zero, List.set_cons_succ, List.getElem_toArray, List.getElem_cons_zero]
                refine wpAnyH_take (i := 1) (v := ?_) rfl (by kernel_rfl) (by kernel_rfl) (by kernel_rfl) (fun _ _ _ h => h) (Or.inl ⟨by rfl, ?_⟩) (by assumption) ?_
                rotate_left
                · intro wt hSt
                  try dsimp only at hSt
                  first | (go_simp; done) | (go_simp; with_reducible rfl)
                simp only [Act.put, List.setIfInBounds_toArray, List.set_cons_zero, List.set_cons_succ, List.getElem_toArray, List.getElem_cons_zero, List.getElem_cons_succ]
                refine wpAnyH_take (i := 2) (v := ?_) rfl (by kernel_rfl) (by kernel_rfl) (by kernel_rfl) (fun _ _ _ h => h) (Or.inl ⟨by rfl, ?_⟩) (by assumption) ?_
                rotate_left
                · intro wt hSt
                  try dsimp only at hSt
                  first | (go_simp; done) | (go_simp; with_reducible rfl)
                simp only [Act.put, List.setIfInBounds_toArray, List.set_cons_zero, List.set_cons_succ, List.getElem_toArray, List.getElem_cons_zero, List.getElem_cons_succ]
                refine wpAnyH_take (i := 3) (v := ?_) rfl (by kernel_rfl) (by kernel_rfl) (by kernel_rfl) (fun _ _ _ h => h) (Or.inl ⟨by rfl, ?_⟩) (by assumption) ?_
                rotate_left
                · intro wt hSt
                  try dsimp only at hSt
                  first | (go_simp; done) | (go_simp; with_reducible rfl)
                simp only [Act.put, List.setIfInBounds_toArray, List.set_cons_zero, List.set_cons_succ, List.getElem_toArray, List.getElem_cons_zero, List.getElem_cons_succ]
                refine wpAnyH_take (i := 4) (v := ?_) rfl (by kernel_rfl) (by kernel_rfl) (by kernel_rfl) (fun _ _ _ h => h) (Or.inl ⟨by rfl, ?_⟩) (by assumption) ?_
                rotate_left
                · intro wt hSt
                  try dsimp only at hSt
                  first | (go_simp; done) | (go_simp; with_reducible rfl)
                simp only [Act.put, List.setIfInBounds_toArray, List.set_cons_zero, List.set_cons_succ, List.getElem_toArray, List.getElem_cons_zero, List.getElem_cons_succ]
                refine wpAnyH_take (i := 5) (v := ?_) rfl (by kernel_rfl) (by kernel_rfl) (by kernel_rfl) (fun _ _ _ h => h) (Or.inl ⟨by rfl, ?_⟩) (by assumption) ?_
                rotate_left
                · intro wt hSt
                  try dsimp only at hSt
                  first | (go_simp; done) | (go_simp; with_reducible rfl)
                simp only [Act.put, List.setIfInBounds_toArray, List.set_cons_zero, List.set_cons_succ, List.getElem_toArray, List.getElem_cons_zero, List.getElem_cons_succ]
                refine wpAnyH_take (i := 6) (v := ?_) rfl (by kernel_rfl) (by kernel_rfl) (by kernel_rfl) (fun _ _ _ h => h) (Or.inl ⟨by rfl, ?_⟩) (by assumption) ?_
                rotate_left
                · intro wt hSt
                  try dsimp only at hSt
                  first | (go_simp; done) | (go_simp; with_reducible rfl)
                simp only [Act.put, List.setIfInBounds_toArray, List.set_cons_zero, List.set_cons_succ, List.getElem_toArray, List.getElem_cons_zero, List.getElem_cons_succ]
                refine wpAnyH_take (i := 7) (v := ?_) rfl (by kernel_rfl) (by kernel_rfl) (by kernel_rfl) (fun _ _ _ h => h) (Or.inl ⟨by rfl, ?_⟩) (by assumption) ?_
                rotate_left
                · intro wt hSt
                  try dsimp only at hSt
                  first | (go_simp; done) | (go_simp; with_reducible rfl)
                simp only [Act.put, List.setIfInBounds_toArray, List.set_cons_zero, List.set_cons_succ, List.getElem_toArray, List.getElem_cons_zero, List.getElem_cons_succ]
                refine wpAnyH_ready (rs := [8]) (by kernel_rfl) (by simp) ?_
                refine AllReadyH.cons rfl (fun K hK => ?_) AllReadyH.nil
                go_simp
                go_at_call 14
                refine (hSa _ _ _ _ _ (hS8.rU.drewN 1) (HU.out _ (hS8.rA.drewN 1))).out.mono ?_
                rintro e w9 ⟨rfl, hb9'⟩
                have hb9 : Below w8.heap.size w8 w9 := below_chain (bdrew (Below.refl _ _)) hb9'
                go_wp2_with fail
                refine hK.out _ _ ⟨(hS8.q.below hb9).get2.1.1, (hS8.q.below hb9).get2.1.2, (hS8.y.below hb9).get2.1.1, (hS8.y.below hb9).get2.1.2⟩ (fun hHeld => ?_)
                clear hK K
                refine wpAnyH_take (i := 9) (v := ?_) rfl (by kernel_rfl) (by kernel_rfl) (by kernel_rfl) (fun _ _ _ h => h) (Or.inl ⟨by rfl, ?_⟩) (by assumption) ?_
                rotate_left
                · intro wt hSt
                  try dsimp only at hSt
                  first | (go_simp; done) | (go_simp; with_reducible rfl)
                simp only [Act.put, List.setIfInBounds_toArray, List.set_cons_zero, List.set_cons_succ, List.getElem_toArray, List.getElem_cons_zero, List.getElem_cons_succ]
                refine wpAnyH_take (i := 10) (v := ?_) rfl (by kernel_rfl) (by kernel_rfl) (by kernel_rfl) (fun _ _ _ h => h) (Or.inl ⟨by rfl, ?_⟩) (by assumption) ?_
                rotate_left
                · intro wt hSt
                  try dsimp only at hSt
                  first | (go_simp; done) | (go_simp; with_reducible rfl)
                simp only [Act.put, List.setIfInBounds_toArray, List.set_cons_zero, List.set_cons_succ, List.getElem_toArray, List.getElem_cons_zero, List.getElem_cons_succ]
                refine wpAnyH_take (i := 11) (v := ?_) rfl (by kernel_rfl) (by kernel_rfl) (by kernel_rfl) (fun _ _ _ h => h) (Or.inl ⟨by rfl, ?_⟩) (by assumption) ?_
                rotate_left
                · intro wt hSt
                  try dsimp only at hSt
                  first | (go_simp; done) | (go_simp; with_reducible rfl)
                simp only [Act.put, List.setIfInBounds_toArray, List.set_cons_zero, List.set_cons_succ, List.getElem_toArray, List.getElem_cons_zero, List.getElem_cons_succ]
                refine wpAnyH_take (i := 12) (v := ?_) rfl (by kernel_rfl) (by kernel_rfl) (by kernel_rfl) (fun _ _ _ h => h) (Or.inl ⟨by rfl, ?_⟩) (by assumption) ?_
                rotate_left
                · intro wt hSt
                  try dsimp only at hSt
                  first | (go_simp; done) | (go_simp; with_reducible rfl)
                simp only [Act.put, List.setIfInBounds_toArray, List.set_cons_zero, List.set_cons_succ, List.getElem_toArray, List.getElem_cons_zero, List.getElem_cons_succ]
                refine wpAnyH_take (i := 13) (v := ?_) rfl (by kernel_rfl) (by kernel_rfl) (by kernel_rfl) (fun _ _ _ h => h) (Or.inl ⟨by rfl, ?_⟩) (by assumption) ?_
                rotate_left
                · intro wt hSt
                  try dsimp only at hSt
                  first | (go_simp; done) | (go_simp; with_reducible rfl)
                simp only [Act.put, List.setIfInBounds_toArray, List.set_cons_zero, List.set_cons_succ, List.getElem_toArray, List.getElem_cons_zero, List.getElem_cons_succ]
                refine wpAnyH_take (i := 14) (v := ?_) rfl (by kernel_rfl) (by kernel_rfl) (by kernel_rfl) (fun _ _ _ h => h) (Or.inl ⟨by rfl, ?_⟩) (by assumption) ?_
                rotate_left
                · intro wt hSt
                  try dsimp only at hSt
                  first | (go_simp; done) | (go_simp; with_reducible rfl)
                simp only [Act.put, List.setIfInBounds_toArray, List.set_cons_zero, List.set_cons_succ, List.getElem_toArray, List.getElem_cons_zero, List.getElem_cons_succ]
                refine wpAnyH_take (i := 15) (v := ?_) rfl (by kernel_rfl) (by kernel_rfl) (by kernel_rfl) (fun _ _ _ h => h) (Or.inl ⟨by rfl, ?_⟩) (by assumption) ?_
                rotate_left
                · intro wt hSt
                  try dsimp only at hSt
                  first | (go_simp; done) | (go_simp; with_reducible rfl)
                simp only [Act.put, List.setIfInBounds_toArray, List.set_cons_zero, List.set_cons_succ, List.getElem_toArray, List.getElem_cons_zero, List.getElem_cons_succ]
                refine wpAnyH_take (i := 16) (v := ?_) rfl (by kernel_rfl) (by kernel_rfl) (by kernel_rfl) (fun _ _ _ h => h) (Or.inl ⟨by rfl, ?_⟩) (by assumption) ?_
                rotate_left
                · intro wt hSt
                  try dsimp only at hSt
                  first | (go_simp; done) | (go_simp; with_reducible rfl)
                simp only [Act.put, List.setIfInBounds_toArray, List.set_cons_zero, List.set_cons_succ, List.getElem_toArray, List.getElem_cons_zero, List.getElem_cons_succ]
                refine wpAnyH_take (i := 17) (v := ?_) rfl (by kernel_rfl) (by kernel_rfl) (by kernel_rfl) (fun _ _ _ h => h) (Or.inl ⟨by rfl, ?_⟩) (by assumption) ?_
                rotate_left
                · intro wt hSt
                  try dsimp only at hSt
                  first | (go_simp; done) | (go_simp; with_reducible rfl)
                simp only [Act.put, List.setIfInBounds_toArray, List.set_cons_zero, List.set_cons_succ, List.getElem_toArray, List.getElem_cons_zero, List.getElem_cons_succ]
                refine wpAnyH_take (i := 18) (v := ?_) rfl (by kernel_rfl) (by kernel_rfl) (by kernel_rfl) (fun _ _ _ h => h) (Or.inl ⟨by rfl, ?_⟩) (by assumption) ?_
                rotate_left
                · intro wt hSt
                  try dsimp only at hSt
                  first | (go_simp; done) | (go_simp; with_reducible rfl)
                simp only [Act.put, List.setIfInBounds_toArray, List.set_cons_zero, List.set_cons_succ, List.getElem_toArray, List.getElem_cons_zero, List.getElem_cons_succ]
                refine wpAnyH_ready (rs := [19]) (by kernel_rfl) (by simp) ?_
                refine AllReadyH.cons rfl (fun K hK => ?_) AllReadyH.nil
                go_simp
                go_at_call 11
                refine (hSq _ _ _ _ _ (hS8.rS.below hb9) (HD.out _ (hS8.rA.below hb9))).out.mono ?_
                rintro e w10 ⟨rfl, hb10'⟩
                have hb10 := below_chain hb9 hb10'
                go_wp2_with fail
                refine hK.out _ _ ⟨(hS8.q.below hb10).get2.1.1, (hS8.q.below hb10).get2.1.2, (hS8.y.below hb10).get2.1.1, (hS8.y.below hb10).get2.1.2⟩ (fun hHeld => ?_)
                clear hK K
                refine wpAnyH_take (i := 20) (v := ?_) rfl (by kernel_rfl) (by kernel_rfl) (by kernel_rfl) (fun _ _ _ h => h) (Or.inl ⟨by rfl, ?_⟩) (by assumption) ?_
                rotate_left
                · intro wt hSt
                  try dsimp only at hSt
                  first | (go_simp; done) | (go_simp; with_reducible rfl)
                simp only [Act.put, List.setIfInBounds_toArray, List.set_cons_zero, List.set_cons_succ, List.getElem_toArray, List.getElem_cons_zero, List.getElem_cons_succ]
                refine wpAnyH_take (i := 21) (v := ?_) rfl (by kernel_rfl) (by kernel_rfl) (by kernel_rfl) (fun _ _ _ h => h) (Or.inl ⟨by rfl, ?_⟩) (by assumption) ?_
                rotate_left
                · intro wt hSt
                  try dsimp only at hSt
                  first | (go_simp; done) | (go_simp; with_reducible rfl)
                simp only [Act.put, List.setIfInBounds_toArray, List.set_cons_zero, List.set_cons_succ, List.getElem_toArray, List.getElem_cons_zero, List.getElem_cons_succ]
                refine wpAnyH_done (by kernel_rfl) ?_ _
                go_wp2
                go_ret
                exact ⟨rfl, below_chain hb08 hb10⟩
              case neg =>
                have HD : Hid (∀ (w : World), Row w A (qcells l) → Row w (A.map (·.add (j * 4))) (qcells T2)) := fun w h => by rw [← hT2]; exact h.dropQ j
                clear hte HTR HB hg hz hj hT2 hU2 hT2l hU2l hlen hm30 hc
                go_wp2
                refine wp_region_held_drew (S := fun W => W.cell? ⟨w.heap.size, 0, none⟩ = some (.int .i64 most) ∧ W.cell? ⟨w.heap.size, 1, none⟩ = some (.slice A l.length c) ∧ W.cell? ⟨p2, 0, none⟩ = some (.int .i64 most) ∧ W.cell? ⟨p2, 1, none⟩ = some (.slice D2 T2.length d2)) (by kernel_rfl) ⟨q0, q1, y0, y1⟩ (fun hHeld => ?_)
                refine wpAnyH_take (i := 0) (v := ?_) rfl (by kernel_rfl) (by kernel_rfl) (by kernel_rfl) (fun _ _ _ h => h) (Or.inl ⟨by rfl, ?_⟩) (by assumption) ?_
                rotate_left
                · intro wt hSt
                  try dsimp only at hSt
                  first | (go_simp; done) | (go_simp; with_reducible rfl)
                simp only [Act.put, List.setIfInBounds_toArray, List.set_cons_zero, List.set_cons_succ, List.getElem_toArray, List.getElem_cons_zero]
                refine wpAnyH_take (i := 1) (v := ?_) rfl (by kernel_rfl) (by kernel_rfl) (by kernel_rfl) (fun _ _ _ h => h) (Or.inl ⟨by rfl, ?_⟩) (by assumption) ?_
                rotate_left
                · intro wt hSt
                  try dsimp only at hSt
                  first | (go_simp; done) | (go_simp; with_reducible rfl)
                simp only [Act.put, List.setIfInBounds_toArray, List.set_cons_zero, List.set_cons_succ, List.getElem_toArray, List.getElem_cons_zero, List.getElem_cons_succ]
                refine wpAnyH_take (i := 2) (v := ?_) rfl (by kernel_rfl) (by kernel_rfl) (by kernel_rfl) (fun _ _ _ h => h) (Or.inl ⟨by rfl, ?_⟩) (by assumption) ?_
                rotate_left
                · intro wt hSt
                  try dsimp only at hSt
                  first | (go_simp; done) | (go_simp; with_reducible rfl)
                simp only [Act.put, List.setIfInBounds_toArray, List.set_cons_zero, List.set_cons_succ, List.getElem_toArray, List.getElem_cons_zero, List.getElem_cons_succ]
                refine wpAnyH_take (i := 3) (v := ?_) rfl (by kernel_rfl) (by kernel_rfl) (by kernel_rfl) (fun _ _ _ h => h) (Or.inl ⟨by rfl, ?_⟩) (by assumption) ?_
                rotate_left
                · intro wt hSt
                  try dsimp only at hSt
                  first | (go_simp; done) | (go_simp; with_reducible rfl)
                simp only [Act.put, List.setIfInBounds_toArray, List.set_cons_zero, List.set_cons_succ, List.getElem_toArray, List.getElem_cons_zero, List.getElem_cons_succ]
                refine wpAnyH_take (i := 4) (v := ?_) rfl (by kernel_rfl) (by kernel_rfl) (by kernel_rfl) (fun _ _ _ h => h) (Or.inl ⟨by rfl, ?_⟩) (by assumption) ?_
                rotate_left
                · intro wt hSt
                  try dsimp only at hSt
                  first | (go_simp; done) | (go_simp; with_reducible rfl)
                simp only [Act.put, List.setIfInBounds_toArray, List.set_cons_zero, List.set_cons_succ, List.getElem_toArray, List.getElem_cons_zero, List.getElem_cons_succ]
                refine wpAnyH_take (i := 5) (v := ?_) rfl (by kernel_rfl) (by kernel_rfl) (by kernel_rfl) (fun _ _ _ h => h) (Or.inl ⟨by rfl, ?_⟩) (by assumption) ?_
                rotate_left
                · intro wt hSt
                  try dsimp only at hSt
                  first | (go_simp; done) | (go_simp; with_reducible rfl)
                simp only [Act.put, List.setIfInBounds_toArray, List.set_cons_zero, List.set_cons_succ, List.getElem_toArray, List.getElem_cons_zero, List.getElem_cons_succ]
                refine wpAnyH_take (i := 6) (v := ?_) rfl (by kernel_rfl) (by kernel_rfl) (by kernel_rfl) (fun _ _ _ h => h) (Or.inl ⟨by rfl, ?_⟩) (by assumption) ?_
                rotate_left
                · intro wt hSt
                  try dsimp only at hSt
                  first | (go_simp; done) | (go_simp; with_reducible rfl)
                simp only [Act.put, List.setIfInBounds_toArray, List.set_cons_zero, List.set_cons_succ, List.getElem_toArray, List.getElem_cons_zero, List.getElem_cons_succ]
                refine wpAnyH_take (i := 7) (v := ?_) rfl (by kernel_rfl) (by kernel_rfl) (by kernel_rfl) (fun _ _ _ h => h) (Or.inl ⟨by rfl, ?_⟩) (by assumption) ?_
                rotate_left
                · intro wt hSt
                  try dsimp only at hSt
                  first | (go_simp; done) | (go_simp; with_reducible rfl)
                simp only [Act.put, List.setIfInBounds_toArray, List.set_cons_zero, List.set_cons_succ, List.getElem_toArray, List.getElem_cons_zero, List.getElem_cons_succ]
                refine wpAnyH_ready (rs := [8]) (by kernel_rfl) (by simp) ?_
                refine AllReadyH.cons rfl (fun K hK => ?_) AllReadyH.nil
                go_simp
                go_at_call 14
                refine (hSa _ _ _ _ _ (hS8.rU.drewN 1) (HU.out _ (hS8.rA.drewN 1))).out.mono ?_
                rintro e w9 ⟨rfl, hb9'⟩
                have hb9 : Below w8.heap.size w8 w9 := below_chain (bdrew (Below.refl _ _)) hb9'
                go_wp2_with fail
                refine hK.out _ _ ⟨(hS8.q.below hb9).get2.1.1, (hS8.q.below hb9).get2.1.2, (hS8.y.below hb9).get2.1.1, (hS8.y.below hb9).get2.1.2⟩ (fun hHeld => ?_)
                clear hK K
                refine wpAnyH_take (i := 9) (v := ?_) rfl (by kernel_rfl) (by kernel_rfl) (by kernel_rfl) (fun _ _ _ h => h) (Or.inl ⟨by rfl, ?_⟩) (by assumption) ?_
                rotate_left
                · intro wt hSt
                  try dsimp only at hSt
                  first | (go_simp; done) | (go_simp; with_reducible rfl)
                simp only [Act.put, List.setIfInBounds_toArray, List.set_cons_zero, List.set_cons_succ, List.getElem_toArray, List.getElem_cons_zero, List.getElem_cons_succ]
                refine wpAnyH_take (i := 10) (v := ?_) rfl (by kernel_rfl) (by kernel_rfl) (by kernel_rfl) (fun _ _ _ h => h) (Or.inl ⟨by rfl, ?_⟩) (by assumption) ?_
                rotate_left
                · intro wt hSt
                  try dsimp only at hSt
                  first | (go_simp; done) | (go_simp; with_reducible rfl)
                simp only [Act.put, List.setIfInBounds_toArray, List.set_cons_zero, List.set_cons_succ, List.getElem_toArray, List.getElem_cons_zero, List.getElem_cons_succ]
                refine wpAnyH_take (i := 11) (v := ?_) rfl (by kernel_rfl) (by kernel_rfl) (by kernel_rfl) (fun _ _ _ h => h) (Or.inl ⟨by rfl, ?_⟩) (by assumption) ?_
                rotate_left
                · intro wt hSt
                  try dsimp only at hSt
                  first | (go_simp; done) | (go_simp; with_reducible rfl)
                simp only [Act.put, List.setIfInBounds_toArray, List.set_cons_zero, List.set_cons_succ, List.getElem_toArray, List.getElem_cons_zero, List.getElem_cons_succ]
                refine wpAnyH_take (i := 12) (v := ?_) rfl (by kernel_rfl) (by kernel_rfl) (by kernel_rfl) (fun _ _ _ h => h) (Or.inl ⟨by rfl, ?_⟩) (by assumption) ?_
                rotate_left
                · intro wt hSt
                  try dsimp only at hSt
                  first | (go_simp; done) | (go_simp; with_reducible rfl)
                simp only [Act.put, List.setIfInBounds_toArray, List.set_cons_zero, List.set_cons_succ, List.getElem_toArray, List.getElem_cons_zero, List.getElem_cons_succ]
                refine wpAnyH_take (i := 13) (v := ?_) rfl (by kernel_rfl) (by kernel_rfl) (by kernel_rfl) (fun _ _ _ h => h) (Or.inl ⟨by rfl, ?_⟩) (by assumption) ?_
                rotate_left
                · intro wt hSt
                  try dsimp only at hSt
                  first | (go_simp; done) | (go_simp; with_reducible rfl)
                simp only [Act.put, List.setIfInBounds_toArray, List.set_cons_zero, List.set_cons_succ, List.getElem_toArray, List.getElem_cons_zero, List.getElem_cons_succ]
                refine wpAnyH_take (i := 14) (v := ?_) rfl (by kernel_rfl) (by kernel_rfl) (by kernel_rfl) (fun _ _ _ h => h) (Or.inl ⟨by rfl, ?_⟩) (by assumption) ?_
                rotate_left
                · intro wt hSt
                  try dsimp only at hSt
                  first | (go_simp; done) | (go_simp; with_reducible rfl)
                simp only [Act.put, List.setIfInBounds_toArray, List.set_cons_zero, List.set_cons_succ, List.getElem_toArray, List.getElem_cons_zero, List.getElem_cons_succ]
                refine wpAnyH_take (i := 15) (v := ?_) rfl (by kernel_rfl) (by kernel_rfl) (by kernel_rfl) (fun _ _ _ h => h) (Or.inl ⟨by rfl, ?_⟩) (by assumption) ?_
                rotate_left
                · intro wt hSt
                  try dsimp only at hSt
                  first | (go_simp; done) | (go_simp; with_reducible rfl)
                simp only [Act.put, List.setIfInBounds_toArray, List.set_cons_zero, List.set_cons_succ, List.getElem_toArray, List.getElem_cons_zero, List.getElem_cons_succ]
                refine wpAnyH_take (i := 16) (v := ?_) rfl (by kernel_rfl) (by kernel_rfl) (by kernel_rfl) (fun _ _ _ h => h) (Or.inl ⟨by rfl, ?_⟩) (by assumption) ?_
                rotate_left
                · intro wt hSt
                  try dsimp only at hSt
                  first | (go_simp; done) | (go_simp; with_reducible rfl)
                simp only [Act.put, List.setIfInBounds_toArray, List.set_cons_zero, List.set_cons_succ, List.getElem_toArray, List.getElem_cons_zero, List.getElem_cons_succ]
                refine wpAnyH_take (i := 17) (v := ?_) rfl (by kernel_rfl) (by kernel_rfl) (by kernel_rfl) (fun _ _ _ h => h) (Or.inl ⟨by rfl, ?_⟩) (by assumption) ?_
                rotate_left
                · intro wt hSt
                  try dsimp only at hSt
                  first | (go_simp; done) | (go_simp; with_reducible rfl)
                simp only [Act.put, List.setIfInBounds_toArray, List.set_cons_zero, List.set_cons_succ, List.getElem_toArray, List.getElem_cons_zero, List.getElem_cons_succ]
                refine wpAnyH_take (i := 18) (v := ?_) rfl (by kernel_rfl) (by kernel_rfl) (by kernel_rfl) (fun _ _ _ h => h) (Or.inl ⟨by rfl, ?_⟩) (by assumption) ?_
                rotate_left
                · intro wt hSt
                  try dsimp only at hSt
                  first | (go_simp; done) | (go_simp; with_reducible rfl)
                simp only [Act.put, List.setIfInBounds_toArray, List.set_cons_zero, List.set_cons_succ, List.getElem_toArray, List.getElem_cons_zero, List.getElem_cons_succ]
                refine wpAnyH_ready (rs := [19]) (by kernel_rfl) (by simp) ?_
                refine AllReadyH.cons rfl (fun K hK => ?_) AllReadyH.nil
                go_simp
                go_at_call 11
                refine (hSq _ _ _ _ _ (hS8.rS.below hb9) (HD.out _ (hS8.rA.below hb9))).out.mono ?_
                rintro e w10 ⟨rfl, hb10'⟩
                have hb10 := below_chain hb9 hb10'
                go_wp2_with fail
                refine hK.out _ _ ⟨(hS8.q.below hb10).get2.1.1, (hS8.q.below hb10).get2.1.2, (hS8.y.below hb10).get2.1.1, (hS8.y.below hb10).get2.1.2⟩ (fun hHeld => ?_)
                clear hK K
                refine wpAnyH_take (i := 20) (v := ?_) rfl (by kernel_rfl) (by kernel_rfl) (by kernel_rfl) (fun _ _ _ h => h) (Or.inl ⟨by rfl, ?_⟩) (by assumption) ?_
                rotate_left
                · intro wt hSt
                  try dsimp only at hSt
                  first | (go_simp; done) | (go_simp; with_reducible rfl)
                simp only [Act.put, List.setIfInBounds_toArray, List.set_cons_zero, List.set_cons_succ, List.getElem_toArray, List.getElem_cons_zero, List.getElem_cons_succ]
                refine wpAnyH_take (i := 21) (v := ?_) rfl (by kernel_rfl) (by kernel_rfl) (by kernel_rfl) (fun _ _ _ h => h) (Or.inl ⟨by rfl, ?_⟩) (by assumption) ?_
                rotate_left
                · intro wt hSt
                  try dsimp only at hSt
                  first | (go_simp; done) | (go_simp; with_reducible rfl)
                simp only [Act.put, List.setIfInBounds_toArray, List.set_cons_zero, List.set_cons_succ, List.getElem_toArray, List.getElem_cons_zero, List.getElem_cons_succ]
                refine wpAnyH_done (by kernel_rfl) ?_ _
                go_wp2
                go_ret
                exact ⟨rfl, below_chain hb08 hb10⟩
          case neg =>
            as_aux_lemma =>
            subst hf
            have hpe : putErr most l (n, v, x, t) = 0 := by unfold putErr; rw [HB.out, if_pos rfl, HAF.out, if_pos rfl, if_neg hfull]
            have e1' := HPR.out
            unfold putRes at e1'
            rw [hpe, if_pos rfl] at e1'
            simp only [Prod.mk.injEq] at e1'
            obtain ⟨rfl, hT1, rfl, rfl⟩ := e1'
            have cf : ((l.length : Int) == most) = false := beq_eq_false_iff_ne.2 hfull
            have ckk : ((l.length : Int) != (l.length : Int)) = false := by simp
            have hCc := fun (w0 : World) ty g hg (A B : Option Addr) (c d : Nat) hA hB => Lib.hid (concatQ2' w0 ty g hg A B c d l [(n, v, x, t)] l.length 1 rfl rfl (by omega) hA hB)
            rw [hT1] at hCc
            have hT1l : T1.length ≤ 31 := by rw [← hT1, List.length_append, List.length_singleton]; omega
            have hSq := fun (A B : Option Addr) (c d : Nat) (w : World) hA hB => Lib.hid (refSameQueue most most A B c d T1 T1 w (by unfold maxLen; omega) hA hB true (by simp))
            clear hpe HPR HAF hT1 hfull hT1l
            obtain ⟨q0, q1⟩ := hS6.q.get2.1
            obtain ⟨x0, x1⟩ := hS6.x.get2.1
            go_wp2
            refine wp_region_held_drew (S := fun W => W.cell? ⟨w.heap.size, 0, none⟩ = some (.int .i64 most) ∧ W.cell? ⟨w.heap.size, 1, none⟩ = some (.slice A l.length c) ∧ W.cell? ⟨p1, 0, none⟩ = some (.int .i64 most) ∧ W.cell? ⟨p1, 1, none⟩ = some (.slice D1 T1.length d1) ∧ W.cell? ⟨w.heap.size + 1, 0, none⟩ = some (.string (S n)) ∧ W.cell? ⟨w.heap.size + 1, 1, none⟩ = some (.string (S v)) ∧ W.cell? ⟨w.heap.size + 1, 2, none⟩ = some (.int .u64 (x : Int)) ∧ W.cell? ⟨w.heap.size + 1, 3, none⟩ = some (.int .u64 (t : Int))) (by kernel_rfl) ⟨q0, q1, x0, x1, a0, a1, a2, a3⟩ (fun hHeld => ?_)
            refine wpAnyH_take (i := 0) (v := ?_) rfl (by kernel_rfl) (by kernel_rfl) (by kernel_rfl) (fun _ _ _ h => h) (Or.inl ⟨by rfl, ?_⟩) (by assumption) ?_
            rotate_left
            · intro wt hSt
              try dsimp only at hSt
              first | (go_simp; done) | (go_simp; with_reducible rfl)
            simp only [Act.put, List.setIfInBounds_toArray, List.set_cons_zero, List.set_cons_succ, List.getElem_toArray, List.getElem_cons_zero]
            refine wpAnyH_take (i := 1) (v := ?_) rfl (by kernel_rfl) (by kernel_rfl) (by kernel_rfl) (fun _ _ _ h => h) (Or.inl ⟨by rfl, ?_⟩) (by assumption) ?_
            rotate_left
            · intro wt hSt
              try dsimp only at hSt
              first | (go_simp; done) | (go_simp; with_reducible rfl)
            simp only [Act.put, List.setIfInBounds_toArray, List.set_cons_zero, List.set_cons_succ, List.getElem_toArray, List.getElem_cons_zero, List.getElem_cons_succ]
            refine wpAnyH_take (i := 2) (v := ?_) rfl (by kernel_rfl) (by kernel_rfl) (by kernel_rfl) (fun _ _ _ h => h) (Or.inl ⟨by rfl, ?_⟩) (by assumption) ?_
            rotate_left
            · intro wt hSt
              try dsimp only at hSt
              first | (go_simp; done) | (go_simp; with_reducible rfl)
            simp only [Act.put, List.setIfInBounds_toArray, List.set_cons_zero, List.set_cons_succ, List.getElem_toArray, List.getElem_cons_zero, List.getElem_cons_succ]
            refine wpAnyH_take (i := 3) (v := ?_) rfl (by kernel_rfl) (by kernel_rfl) (by kernel_rfl) (fun _ _ _ h => h) (Or.inl ⟨by rfl, ?_⟩) (by assumption) ?_
            rotate_left
            · intro wt hSt
              try dsimp only at hSt
              first | (go_simp; done) | (go_simp; with_reducible rfl)
            simp only [Act.put, List.setIfInBounds_toArray, List.set_cons_zero, List.set_cons_succ, List.getElem_toArray, List.getElem_cons_zero, List.getElem_cons_succ]
            refine wpAnyH_take (i := 4) (v := ?_) rfl (by kernel_rfl) (by kernel_rfl) (by kernel_rfl) (fun _ _ _ h => h) (Or.inl ⟨by rfl, ?_⟩) (by assumption) ?_
            rotate_left
            · intro wt hSt
              try dsimp only at hSt
              first | (go_simp; done) | (go_simp; with_reducible rfl)
            simp only [Act.put, List.setIfInBounds_toArray, List.set_cons_zero, List.set_cons_succ, List.getElem_toArray, List.getElem_cons_zero, List.getElem_cons_succ]
            refine wpAnyH_take (i := 5) (v := ?_) rfl (by kernel_rfl) (by kernel_rfl) (by kernel_rfl) (fun _ _ _ h => h) (Or.inl ⟨by rfl, ?_⟩) (by assumption) ?_
            rotate_left
            · intro wt hSt
              try dsimp only at hSt
              first | (go_simp; done) | (go_simp; with_reducible rfl)
            simp only [Act.put, List.setIfInBounds_toArray, List.set_cons_zero, List.set_cons_succ, List.getElem_toArray, List.getElem_cons_zero, List.getElem_cons_succ]
            refine wpAnyH_take (i := 6) (v := ?_) rfl (by kernel_rfl) (by kernel_rfl) (by kernel_rfl) (fun _ _ _ h => h) (Or.inl ⟨by rfl, ?_⟩) (by assumption) ?_
            rotate_left
            · intro wt hSt
              try dsimp only at hSt
              first | (go_simp; done) | (go_simp; with_reducible rfl)
            simp only [Act.put, List.setIfInBounds_toArray, List.set_cons_zero, List.set_cons_succ, List.getElem_toArray, List.getElem_cons_zero, List.getElem_cons_succ]
            refine wpAnyH_take (i := 7) (v := ?_) rfl (by kernel_rfl) (by kernel_rfl) (by kernel_rfl) (fun _ _ _ h => h) (Or.inl ⟨by rfl, ?_⟩) (by assumption) ?_
            rotate_left
            · intro wt hSt
              try dsimp only at hSt
              first | (go_simp; done) | (go_simp; with_reducible rfl)
            simp only [Act.put, List.setIfInBounds_toArray, List.set_cons_zero, List.set_cons_succ, List.getElem_toArray, List.getElem_cons_zero, List.getElem_cons_succ]
            refine wpAnyH_take (i := 8) (v := ?_) rfl (by kernel_rfl) (by kernel_rfl) (by kernel_rfl) (fun _ _ _ h => h) (Or.inl ⟨by rfl, ?_⟩) (by assumption) ?_
            rotate_left
            · intro wt hSt
              try dsimp only at hSt
              first | (go_simp; done) | (go_simp; with_reducible rfl)
            simp only [Act.put, List.setIfInBounds_toArray, List.set_cons_zero, List.set_cons_succ, List.getElem_toArray, List.getElem_cons_zero, List.getElem_cons_succ]
            refine wpAnyH_take (i := 9) (v := ?_) rfl (by kernel_rfl) (by kernel_rfl) (by kernel_rfl) (fun _ _ _ h => h) (Or.inl ⟨by rfl, ?_⟩) (by assumption) ?_
            rotate_left
            · intro wt hSt
              try dsimp only at hSt
              first | (go_simp; done) | (go_simp; with_reducible rfl)
            simp only [Act.put, List.setIfInBounds_toArray, List.set_cons_zero, List.set_cons_succ, List.getElem_toArray, List.getElem_cons_zero, List.getElem_cons_succ]
            refine wpAnyH_take (i := 10) (v := ?_) rfl (by kernel_rfl) (by kernel_rfl) (by kernel_rfl) (fun _ _ _ h => h) (Or.inl ⟨by rfl, ?_⟩) (by assumption) ?_
            rotate_left
            · intro wt hSt
              try dsimp only at hSt
              first | (go_simp; done) | (go_simp; with_reducible rfl)
            simp only [Act.put, List.setIfInBounds_toArray, List.set_cons_zero, List.set_cons_succ, List.getElem_toArray, List.getElem_cons_zero, List.getElem_cons_succ]
            refine wpAnyH_take (i := 11) (v := ?_) rfl (by kernel_rfl) (by kernel_rfl) (by kernel_rfl) (fun _ _ _ h => h) (Or.inl ⟨by rfl, ?_⟩) (by assumption) ?_
            rotate_left
            · intro wt hSt
              try dsimp only at hSt
              first | (go_simp; done) | (go_simp; with_reducible rfl)
            simp only [Act.put, List.setIfInBounds_toArray, List.set_cons_zero, List.set_cons_succ, List.getElem_toArray, List.getElem_cons_zero, List.getElem_cons_succ]
            refine wpAnyH_take (i := 12) (v := ?_) rfl (by kernel_rfl) (by kernel_rfl) (by kernel_rfl) (fun _ _ _ h => h) (Or.inl ⟨by rfl, ?_⟩) (by assumption) ?_
            rotate_left
            · intro wt hSt
              try dsimp only at hSt
              first | (go_simp; done) | (go_simp; with_reducible rfl)
            simp only [Act.put, List.setIfInBounds_toArray, List.set_cons_zero, List.set_cons_succ, List.getElem_toArray, List.getElem_cons_zero, List.getElem_cons_succ]
            refine wpAnyH_take (i := 13) (v := ?_) rfl (by kernel_rfl) (by kernel_rfl) (by kernel_rfl) (fun _ _ _ h => h) (Or.inl ⟨by rfl, ?_⟩) (by assumption) ?_
            rotate_left
            · intro wt hSt
              try dsimp only at hSt
              first | (go_simp; done) | (go_simp; with_reducible rfl)
            simp only [Act.put, List.setIfInBounds_toArray, List.set_cons_zero, List.set_cons_succ, List.getElem_toArray, List.getElem_cons_zero, List.getElem_cons_succ]
            refine wpAnyH_take (i := 14) (v := ?_) rfl (by kernel_rfl) (by kernel_rfl) (by kernel_rfl) (fun _ _ _ h => h) (Or.inl ⟨by rfl, ?_⟩) (by assumption) ?_
            rotate_left
            · intro wt hSt
              try dsimp only at hSt
              first | (go_simp; done) | (go_simp; with_reducible rfl)
            simp only [Act.put, List.setIfInBounds_toArray, List.set_cons_zero, List.set_cons_succ, List.getElem_toArray, List.getElem_cons_zero, List.getElem_cons_succ]
            refine wpAnyH_take (i := 15) (v := ?_) rfl (by kernel_rfl) (by kernel_rfl) (by kernel_rfl) (fun _ _ _ h => h) (Or.inl ⟨by rfl, ?_⟩) (by assumption) ?_
            rotate_left
            · intro wt hSt
              try dsimp only at hSt
              first | (go_simp; done) | (go_simp; with_reducible rfl)
            simp only [Act.put, List.setIfInBounds_toArray, List.set_cons_zero, List.set_cons_succ, List.getElem_toArray, List.getElem_cons_zero, List.getElem_cons_succ]
            refine wpAnyH_ready (rs := [16]) (by kernel_rfl) (by simp) ?_
            refine AllReadyH.cons rfl (fun K hK => ?_) AllReadyH.nil
            go_simp
            have hb7 : Below w6.heap.size w6 (w6.drew.alloc (.cells #[.string (S n), .string (S v), .int .u64 (x : Int), .int .u64 (t : Int)] 27)) := balloc (bdrew (Below.refl _ _)) _
            have hask := ask_one w6.drew (n, v, x, t) 27
            refine hK.out _ _ ⟨(hS6.q.below hb7).get2.1.1, (hS6.q.below hb7).get2.1.2, (hS6.x.below hb7).get2.1.1, (hS6.x.below hb7).get2.1.2, (hS6.a.below hb7).get4.1⟩ (fun hHeld => ?_)
            clear hK K
            refine wpAnyH_ready (rs := [17]) (by kernel_rfl) (by simp) ?_
            refine AllReadyH.cons rfl (fun K hK => ?_) AllReadyH.nil
            go_simp
            have hb8 : Below w6.heap.size w6 ((w6.drew.alloc (.cells #[.string (S n), .string (S v), .int .u64 (x : Int), .int .u64 (t : Int)] 27)).alloc (.cells #[.slice A l.length c, .slice (some ⟨w6.heap.size, 0, none⟩) 1 1] 22)) := balloc hb7 _
            refine hK.out _ _ ⟨(hS6.q.below hb8).get2.1.1, (hS6.q.below hb8).get2.1.2, (hS6.x.below hb8).get2.1.1, (hS6.x.below hb8).get2.1.2, (hS6.a.below hb8).get4.1⟩ (fun hHeld => ?_)
            clear hK K
            refine wpAnyH_ready (rs := [18]) (by kernel_rfl) (by simp) ?_
            refine AllReadyH.cons rfl (fun K hK => ?_) AllReadyH.nil
            go_simp
            go_at_call 13
            refine (hCc _ _ _ (by simp) _ _ _ _ (hS6.rA.below hb7) hask).out.mono ?_
            rintro e w9 ⟨D9, d9, rfl, hown9, hb9'⟩
            have hb9 := below_chain hb8 hb9'
            go_wp2_with fail
            refine hK.out _ _ ⟨(hS6.q.below hb9).get2.1.1, (hS6.q.below hb9).get2.1.2, (hS6.x.below hb9).get2.1.1, (hS6.x.below hb9).get2.1.2, (hS6.a.below hb9).get4.1⟩ (fun hHeld => ?_)
            clear hK K
            refine wpAnyH_take (i := 19) (v := ?_) rfl (by kernel_rfl) (by kernel_rfl) (by kernel_rfl) (fun _ _ _ h => h) (Or.inl ⟨by rfl, ?_⟩) (by assumption) ?_
            rotate_left
            · intro wt hSt
              try dsimp only at hSt
              first | (go_simp; done) | (go_simp; with_reducible rfl)
            simp only [Act.put, List.setIfInBounds_toArray, List.set_cons_zero, List.set_cons_succ, List.getElem_toArray, List.getElem_cons_zero, List.getElem_cons_succ]
            refine wpAnyH_ready (rs := [20]) (by kernel_rfl) (by simp) ?_
            refine AllReadyH.cons rfl (fun K hK => ?_) AllReadyH.nil
            go_simp
            go_at_call 11
            refine (hSq _ _ _ _ _ (hS6.rT.below hb9) (Row.ownN hown9)).out.mono ?_
            rintro e w10 ⟨rfl, hb10'⟩
            have hb10 := below_chain hb9 hb10'
            go_wp2_with fail
            refine hK.out _ _ ⟨(hS6.q.below hb10).get2.1.1, (hS6.q.below hb10).get2.1.2, (hS6.x.below hb10).get2.1.1, (hS6.x.below hb10).get2.1.2, (hS6.a.below hb10).get4.1⟩ (fun hHeld => ?_)
            clear hK K
            refine wpAnyH_take (i := 21) (v := ?_) rfl (by kernel_rfl) (by kernel_rfl) (by kernel_rfl) (fun _ _ _ h => h) (Or.inl ⟨by rfl, ?_⟩) (by assumption) ?_
            rotate_left
            · intro wt hSt
              try dsimp only at hSt
              first | (go_simp; done) | (go_simp; with_reducible rfl)
            simp only [Act.put, List.setIfInBounds_toArray, List.set_cons_zero, List.set_cons_succ, List.getElem_toArray, List.getElem_cons_zero, List.getElem_cons_succ]
            refine wpAnyH_take (i := 22) (v := ?_) rfl (by kernel_rfl) (by kernel_rfl) (by kernel_rfl) (fun _ _ _ h => h) (Or.inl ⟨by rfl, ?_⟩) (by assumption) ?_
            rotate_left
            · intro wt hSt
              try dsimp only at hSt
              first | (go_simp; done) | (go_simp; with_reducible rfl)
            simp only [Act.put, List.setIfInBounds_toArray, List.set_cons_zero, List.set_cons_succ, List.getElem_toArray, List.getElem_cons_zero, List.getElem_cons_succ]
            refine wpAnyH_done (by kernel_rfl) ?_ _
            have hS8 := hS6.below hb10
            have hb08 := below_chain hb06 hb10
            clear hS6 hb06 hb10' hb10 hb9' hb9 hb8 hb7 hown9 hask hCc hSq q0 q1 x0 x1 a0 a1 a2 a3 hHeld
            by_cases hz : z < 0
            case pos =>
              have hte : takeErr most l z = 4 := by unfold takeErr; rw [HB.out, if_pos rfl, if_pos hz]
              have e2' := HTR.out
              unfold takeRes at e2'
              rw [hte, if_neg (by decide)] at e2'
              simp only [Prod.mk.injEq] at e2'
              obtain ⟨rfl, rfl, rfl, rfl⟩ := e2'
              clear hte HTR HB
              obtain ⟨y0, y1⟩ := hS8.y.get2.1
              obtain ⟨z0, z1⟩ := hS8.z.get2.1
              rw [List.length_nil] at y1
              go_wp2_with fail
              refine (hN _ _ _).out.mono ?_
              rintro e w9 ⟨rfl, hb9⟩
              go_wp2
              go_ret
              exact ⟨rfl, below_chain hb08 hb9⟩
            case neg =>
              have hte : takeErr most l z = 0 := by unfold takeErr; rw [HB.out, if_pos rfl, if_neg hz]
              have e2' := HTR.out
              unfold takeRes at e2'
              rw [hte, if_pos rfl] at e2'
              simp only [Prod.mk.injEq] at e2'
              obtain ⟨rfl, hT2, hU2, rfl⟩ := e2'
              obtain ⟨nz, rfl⟩ : ∃ nz : Nat, z = (nz : Int) := ⟨z.toNat, by omega⟩
              obtain ⟨j, hj⟩ : ∃ j, min nz l.length = j := ⟨_, rfl⟩
              rw [Int.toNat_natCast, hj] at hT2 hU2
              have hjl : j ≤ l.length := by omega
              have hT2l : T2.length = l.length - j := by rw [← hT2, List.length_drop]
              have hU2l : U2.length = j := by rw [← hU2, List.length_take]; omega
              have hmn : min (nz : Int) (l.length : Int) = (j : Int) := by omega
              have hn0 : decide ((nz : Int) < 0) = false := decide_eq_false (by omega)
              have hi0 : (0 : Int) ≤ (j : Int) := by omega
              have hi1 : (j : Int) ≤ (l.length : Int) := by omega
              have hi2 : (j : Int) ≤ (c : Int) := by omega
              have hi3 : (l.length : Int) ≤ (c : Int) := by omega
              have HU : Hid (∀ (w : World), Row w A (qcells l) → Row w A (qcells U2)) := fun w h => by rw [← hU2]; exact h.takeQ j
              have hSa := fun (E F : Option Addr) (f g : Nat) (w : World) hE hF' => (Lib.hid (Calls.mono (cast (by rw [hU2l]) (refSameAsks E F f g U2 U2 w (by unfold maxLen; omega) true (by simp) hE hF') : Calls Try.prog 14 #[.slice E U2.length f, .slice F j g] w fun e w' => e = .returned (.bool true) ∧ ∃ m, w' = w.drewN m) (fun e w' h => ⟨h.1, by obtain ⟨_, m, h2⟩ := h; rw [h2]; exact below_of_drewN _ _ _⟩)) : Hid (Calls Try.prog 14 #[.slice E U2.length f, .slice F j g] w fun e w' => e = .returned (.bool true) ∧ Below w.heap.size w w'))
              have hSq := fun (E F : Option Addr) (f g : Nat) (w : World) hE hF' => (Lib.hid (cast (by rw [hT2l]) (refSameQueue most most E F f g T2 T2 w (by unfold maxLen; omega) hE hF' true (by simp))) : Hid (Calls Try.prog 11 #[.agg #[.int .i64 most, .slice E T2.length f], .agg #[.int .i64 most, .slice F (l.length - j) g]] w fun e w' => e = .returned (.bool true) ∧ Below w.heap.size w w'))
              obtain ⟨q0, q1⟩ := hS8.q.get2.1
              obtain ⟨y0, y1⟩ := hS8.y.get2.1
              by_cases hcj : c = j
              case pos =>
                have HD : Hid (∀ (w : World), Row w A (qcells l) → Row w A (qcells T2)) := fun w h => by rw [← hT2, List.drop_eq_nil_of_le (by omega)]; exact Row.nil_ _ _
                clear hte HTR HB hg hz hj hT2 hU2 hT2l hU2l hlen hm30 hc
                have hcj' := hcj.symm
                subst hcj'
                clear hcj
                go_wp2
                refine wp_region_held_drew (S := fun W => W.cell? ⟨w.heap.size, 0, none⟩ = some (.int .i64 most) ∧ W.cell? ⟨w.heap.size, 1, none⟩ = some (.slice A l.length j) ∧ W.cell? ⟨p2, 0, none⟩ = some (.int .i64 most) ∧ W.cell? ⟨p2, 1, none⟩ = some (.slice D2 T2.length d2)) (by kernel_rfl) ⟨q0, q1, y0, y1⟩ (fun hHeld => ?_)
                refine wpAnyH_take (i := 0) (v := ?_) rfl (by kernel_rfl) (by kernel_rfl) (by kernel_rfl) (fun _ _ _ h => h) (Or.inl ⟨by rfl, ?_⟩) (by assumption) ?_
                rotate_left
                · intro wt hSt
                  try dsimp only at hSt
                  first | (go_simp; done) | (go_simp; with_reducible rfl)
                simp only [Act.put, List.setIfInBounds_toArray, List.set_cons_zero, List.set_cons_succ, List.getElem_toArray, List.getElem_cons_zero]
                refine wpAnyH_take (i := 1) (v := ?_) rfl (by kernel_rfl) (by kernel_rfl) (by kernel_rfl) (fun _ _ _ h => h) (Or.inl ⟨by rfl, ?_⟩) (by assumption) ?_
                rotate_left
                · intro wt hSt
                  try dsimp only at hSt
                  first | (go_simp; done) | (go_simp; with_reducible rfl)
                simp only [Act.put, List.setIfInBounds_toArray, List.set_cons_zero, List.set_cons_succ, List.getElem_toArray, List.getElem_cons_zero, List.getElem_cons_succ]
                refine wpAnyH_take (i := 2) (v := ?_) rfl (by kernel_rfl) (by kernel_rfl) (by kernel_rfl) (fun _ _ _ h => h) (Or.inl ⟨by rfl, ?_⟩) (by assumption) ?_
                rotate_left
                · intro wt hSt
                  try dsimp only at hSt
                  first | (go_simp; done) | (go_simp; with_reducible rfl)
                simp only [Act.put, List.setIfInBounds_toArray, List.set_cons_zero, List.set_cons_succ, List.getElem_toArray, List.getElem_cons_zero, List.getElem_cons_succ]
                refine wpAnyH_take (i := 3) (v := ?_) rfl (by kernel_rfl) (by kernel_rfl) (by kernel_rfl) (fun _ _ _ h => h) (Or.inl ⟨by rfl, ?_⟩) (by assumption) ?_
                rotate_left
                · intro wt hSt
                  try dsimp only at hSt
                  first | (go_simp; done) | (go_simp; with_reducible rfl)
                simp only [Act.put, List.setIfInBounds_toArray, List.set_cons_zero, List.set_cons_succ, List.getElem_toArray, List.getElem_cons_zero, List.getElem_cons_succ]
                refine wpAnyH_take (i := 4) (v := ?_) rfl (by kernel_rfl) (by kernel_rfl) (by kernel_rfl) (fun _ _ _ h => h) (Or.inl ⟨by rfl, ?_⟩) (by assumption) ?_
                rotate_left
                · intro wt hSt
                  try dsimp only at hSt
                  first | (go_simp; done) | (go_simp; with_reducible rfl)
                simp only [Act.put, List.setIfInBounds_toArray, List.set_cons_zero, List.set_cons_succ, List.getElem_toArray, List.getElem_cons_zero, List.getElem_cons_succ]
                refine wpAnyH_take (i := 5) (v := ?_) rfl (by kernel_rfl) (by kernel_rfl) (by kernel_rfl) (fun _ _ _ h => h) (Or.inl ⟨by rfl, ?_⟩) (by assumption) ?_
                rotate_left
                · intro wt hSt
                  try dsimp only at hSt
                  first | (go_simp; done) | (go_simp; with_reducible rfl)
                simp only [Act.put, List.setIfInBounds_toArray, List.set_cons_zero, List.set_cons_succ, List.getElem_toArray, List.getElem_cons_zero, List.getElem_cons_succ]
                refine wpAnyH_take (i := 6) (v := ?_) rfl (by kernel_rfl) (by kernel_rfl) (by kernel_rfl) (fun _ _ _ h => h) (Or.inl ⟨by rfl, ?_⟩) (by assumption) ?_
                rotate_left
                · intro wt hSt
                  try dsimp only at hSt
                  first | (go_simp; done) | (go_simp; with_reducible rfl)
                simp only [Act.put, List.setIfInBounds_toArray, List.set_cons_zero, List.set_cons_succ, List.getElem_toArray, List.getElem_cons_zero, List.getElem_cons_succ]
                refine wpAnyH_take (i := 7) (v := ?_) rfl (by kernel_rfl) (by kernel_rfl) (by kernel_rfl) (fun _ _ _ h => h) (Or.inl ⟨by rfl, ?_⟩) (by assumption) ?_
                rotate_left
                · intro wt hSt
                  try dsimp only at hSt
                  first | (go_simp; done) | (go_simp; with_reducible rfl)
                simp only [Act.put, List.setIfInBounds_toArray, List.set_cons_zero, List.set_cons_succ, List.getElem_toArray, List.getElem_cons_zero, List.getElem_cons_succ]
                refine wpAnyH_ready (rs := [8]) (by kernel_rfl) (by simp) ?_
                refine AllReadyH.cons rfl (fun K hK => ?_) AllReadyH.nil
                go_simp
                go_at_call 14
                refine (hSa _ _ _ _ _ (hS8.rU.drewN 1) (HU.out _ (hS8.rA.drewN 1))).out.mono ?_
                rintro e w9 ⟨rfl, hb9'⟩
                have hb9 : Below w10.heap.size w10 w9 := below_chain (bdrew (Below.refl _ _)) hb9'
                go_wp2_with fail
                refine hK.out _ _ ⟨(hS8.q.below hb9).get2.1.1, (hS8.q.below hb9).get2.1.2, (hS8.y.below hb9).get2.1.1, (hS8.y.below hb9).get2.1.2⟩ (fun hHeld => ?_)
                clear hK K
                refine wpAnyH_take (i := 9) (v := ?_) rfl (by kernel_rfl) (by kernel_rfl) (by kernel_rfl) (fun _ _ _ h => h) (Or.inl ⟨by rfl, ?_⟩) (by assumption) ?_
                rotate_left
                · intro wt hSt
                  try dsimp only at hSt
                  first | (go_simp; done) | (go_simp; with_reducible rfl)
                simp only [Act.put, List.setIfInBounds_toArray, List.set_cons_zero, List.set_cons_succ, List.getElem_toArray, List.getElem_cons_zero, List.getElem_cons_succ]
                refine wpAnyH_take (i := 10) (v := ?_) rfl (by kernel_rfl) (by kernel_rfl) (by kernel_rfl) (fun _ _ _ h => h) (Or.inl ⟨by rfl, ?_⟩) (by assumption) ?_
                rotate_left
                · intro wt hSt
                  try dsimp only at hSt
                  first | (go_simp; done) | (go_simp; with_reducible rfl)
                simp only [Act.put, List.setIfInBounds_toArray, List.set_cons_zero, List.set_cons_succ, List.getElem_toArray, List.getElem_cons_zero, List.getElem_cons_succ]
                refine wpAnyH_take (i := 11) (v := ?_) rfl (by kernel_rfl) (by kernel_rfl) (by kernel_rfl) (fun _ _ _ h => h) (Or.inl ⟨by rfl, ?_⟩) (by assumption) ?_
                rotate_left
                · intro wt hSt
                  try dsimp only at hSt
                  first | (go_simp; done) | (go_simp; with_reducible rfl)
                simp only [Act.put, List.setIfInBounds_toArray, List.set_cons_zero, List.set_cons_succ, List.getElem_toArray, List.getElem_cons_zero, List.getElem_cons_succ]
                refine wpAnyH_take (i := 12) (v := ?_) rfl (by kernel_rfl) (by kernel_rfl) (by kernel_rfl) (fun _ _ _ h => h) (Or.inl ⟨by rfl, ?_⟩) (by assumption) ?_
                rotate_left
                · intro wt hSt
                  try dsimp only at hSt
                  first | (go_simp; done) | (go_simp; with_reducible rfl)
                simp only [Act.put, List.setIfInBounds_toArray, List.set_cons_zero, List.set_cons_succ, List.getElem_toArray, List.getElem_cons_zero, List.getElem_cons_succ]
                refine wpAnyH_take (i := 13) (v := ?_) rfl (by kernel_rfl) (by kernel_rfl) (by kernel_rfl) (fun _ _ _ h => h) (Or.inl ⟨by rfl, ?_⟩) (by assumption) ?_
                rotate_left
                · intro wt hSt
                  try dsimp only at hSt
                  first | (go_simp; done) | (go_simp; with_reducible rfl)
                simp only [Act.put, List.setIfInBounds_toArray, List.set_cons_zero, List.set_cons_succ, List.getElem_toArray, List.getElem_cons_zero, List.getElem_cons_succ]
                refine wpAnyH_take (i := 14) (v := ?_) rfl (by kernel_rfl) (by kernel_rfl) (by kernel_rfl) (fun _ _ _ h => h) (Or.inl ⟨by rfl, ?_⟩) (by assumption) ?_
                rotate_left
                · intro wt hSt
                  try dsimp only at hSt
                  first | (go_simp; done) | (go_simp; with_reducible rfl)
                simp only [Act.put, List.setIfInBounds_toArray, List.set_cons_zero, List.set_cons_succ, List.getElem_toArray, List.getElem_cons_zero, List.getElem_cons_succ]
                refine wpAnyH_take (i := 15) (v := ?_) rfl (by kernel_rfl) (by kernel_rfl) (by kernel_rfl) (fun _ _ _ h => h) (Or.inl ⟨by rfl, ?_⟩) (by assumption) ?_
                rotate_left
                · intro wt hSt
                  try dsimp only at hSt
                  first | (go_simp; done) | (go_simp; with_reducible rfl)
                simp only [Act.put, List.setIfInBounds_toArray, List.set_cons_zero, List.set_cons_succ, List.getElem_toArray, List.getElem_cons_zero, List.getElem_cons_succ]
                refine wpAnyH_take (i := 16) (v := ?_) rfl (by kernel_rfl) (by kernel_rfl) (by kernel_rfl) (fun _ _ _ h => h) (Or.inl ⟨by rfl, ?_⟩) (by assumption) ?_
                rotate_left
                · intro wt hSt
                  try dsimp only at hSt
                  first | (go_simp; done) | (go_simp; with_reducible rfl)
                simp only [Act.put, List.setIfInBounds_toArray, List.set_cons_zero, List.set_cons_succ, List.getElem_toArray, List.getElem_cons_zero, List.getElem_cons_succ]
                refine wpAnyH_take (i := 17) (v := ?_) rfl (by kernel_rfl) (by kernel_rfl) (by kernel_rfl) (fun _ _ _ h => h) (Or.inl ⟨by rfl, ?_⟩) (by assumption) ?_
                rotate_left
                · intro wt hSt
                  try dsimp only at hSt
                  first | (go_simp; done) | (go_simp; with_reducible rfl)
                simp only [Act.put, List.setIfInBounds_toArray, List.set_cons_zero, List.set_cons_succ, List.getElem_toArray, List.getElem_cons_zero, List.getElem_cons_succ]
                refine wpAnyH_take (i := 18) (v := ?_) rfl (by kernel_rfl) (by kernel_rfl) (by kernel_rfl) (fun _ _ _ h => h) (Or.inl ⟨by rfl, ?_⟩) (by assumption) ?_
                rotate_left
                · intro wt hSt
                  try dsimp only at hSt
                  first | (go_simp; done) | (go_simp; with_reducible rfl)
                simp only [Act.put, List.setIfInBounds_toArray, List.set_cons_zero, List.set_cons_succ, List.getElem_toArray, List.getElem_cons_zero, List.getElem_cons_succ]
                refine wpAnyH_ready (rs := [19]) (by kernel_rfl) (by simp) ?_
                refine AllReadyH.cons rfl (fun K hK => ?_) AllReadyH.nil
                go_simp
                go_at_call 11
                refine (hSq _ _ _ _ _ (hS8.rS.below hb9) (HD.out _ (hS8.rA.below hb9))).out.mono ?_
                rintro e w10 ⟨rfl, hb10'⟩
                have hb10 := below_chain hb9 hb10'
                go_wp2_with fail
                refine hK.out _ _ ⟨(hS8.q.below hb10).get2.1.1, (hS8.q.below hb10).get2.1.2, (hS8.y.below hb10).get2.1.1, (hS8.y.below hb10).get2.1.2⟩ (fun hHeld => ?_)
                clear hK K
                refine wpAnyH_take (i := 20) (v := ?_) rfl (by kernel_rfl) (by kernel_rfl) (by kernel_rfl) (fun _ _ _ h => h) (Or.inl ⟨by rfl, ?_⟩) (by assumption) ?_
                rotate_left
                · intro wt hSt
                  try dsimp only at hSt
                  first | (go_simp; done) | (go_simp; with_reducible rfl)
                simp only [Act.put, List.setIfInBounds_toArray, List.set_cons_zero, List.set_cons_succ, List.getElem_toArray, List.getElem_cons_zero, List.getElem_cons_succ]
                refine wpAnyH_take (i := 21) (v := ?_) rfl (by kernel_rfl) (by kernel_rfl) (by kernel_rfl) (fun _ _ _ h => h) (Or.inl ⟨by rfl, ?_⟩) (by assumption) ?_
                rotate_left
                · intro wt hSt
                  try dsimp only at hSt
                  first | (go_simp; done) | (go_simp; with_reducible rfl)
                simp only [Act.put, List.setIfInBounds_toArray, List.set_cons_zero, List.set_cons_succ, List.getElem_toArray, List.getElem_cons_zero, List.getElem_cons_succ]
                refine wpAnyH_done (by kernel_rfl) ?_ _
                go_wp2
                go_ret
                exact ⟨rfl, below_chain hb08 hb10⟩
              case neg =>
                have HD : Hid (∀ (w : World), Row w A (qcells l) → Row w (A.map (·.add (j * 4))) (qcells T2)) := fun w h => by rw [← hT2]; exact h.dropQ j
                clear hte HTR HB hg hz hj hT2 hU2 hT2l hU2l hlen hm30 hc
                go_wp2
                refine wp_region_held_drew (S := fun W => W.cell? ⟨w.heap.size, 0, none⟩ = some (.int .i64 most) ∧ W.cell? ⟨w.heap.size, 1, none⟩ = some (.slice A l.length c) ∧ W.cell? ⟨p2, 0, none⟩ = some (.int .i64 most) ∧ W.cell? ⟨p2, 1, none⟩ = some (.slice D2 T2.length d2)) (by kernel_rfl) ⟨q0, q1, y0, y1⟩ (fun hHeld => ?_)
                refine wpAnyH_take (i := 0) (v := ?_) rfl (by kernel_rfl) (by kernel_rfl) (by kernel_rfl) (fun _ _ _ h => h) (Or.inl ⟨by rfl, ?_⟩) (by assumption) ?_
                rotate_left
                · intro wt hSt
                  try dsimp only at hSt
                  first | (go_simp; done) | (go_simp; with_reducible rfl)
                simp only [Act.put, List.setIfInBounds_toArray, List.set_cons_zero, List.set_cons_succ, List.getElem_toArray, List.getElem_cons_zero]
                refine wpAnyH_take (i := 1) (v := ?_) rfl (by kernel_rfl) (by kernel_rfl) (by kernel_rfl) (fun _ _ _ h => h) (Or.inl ⟨by rfl, ?_⟩) (by assumption) ?_
                rotate_left
                · intro wt hSt
                  try dsimp only at hSt
                  first | (go_simp; done) | (go_simp; with_reducible rfl)
                simp only [Act.put, List.setIfInBounds_toArray, List.set_cons_zero, List.set_cons_succ, List.getElem_toArray, List.getElem_cons_zero, List.getElem_cons_succ]
                refine wpAnyH_take (i := 2) (v := ?_) rfl (by kernel_rfl) (by kernel_rfl) (by kernel_rfl) (fun _ _ _ h => h) (Or.inl ⟨by rfl, ?_⟩) (by assumption) ?_
                rotate_left
                · intro wt hSt
                  try dsimp only at hSt
                  first | (go_simp; done) | (go_simp; with_reducible rfl)
                simp only [Act.put, List.setIfInBounds_toArray, List.set_cons_zero, List.set_cons_succ, List.getElem_toArray, List.getElem_cons_zero, List.getElem_cons_succ]
                refine wpAnyH_take (i := 3) (v := ?_) rfl (by kernel_rfl) (by kernel_rfl) (by kernel_rfl) (fun _ _ _ h => h) (Or.inl ⟨by rfl, ?_⟩) (by assumption) ?_
                rotate_left
                · intro wt hSt
                  try dsimp only at hSt
                  first | (go_simp; done) | (go_simp; with_reducible rfl)
                simp only [Act.put, List.setIfInBounds_toArray, List.set_cons_zero, List.set_cons_succ, List.getElem_toArray, List.getElem_cons_zero, List.getElem_cons_succ]
                refine wpAnyH_take (i := 4) (v := ?_) rfl (by kernel_rfl) (by kernel_rfl) (by kernel_rfl) (fun _ _ _ h => h) (Or.inl ⟨by rfl, ?_⟩) (by assumption) ?_
                rotate_left
                · intro wt hSt
                  try dsimp only at hSt
                  first | (go_simp; done) | (go_simp; with_reducible rfl)
                simp only [Act.put, List.setIfInBounds_toArray, List.set_cons_zero, List.set_cons_succ, List.getElem_toArray, List.getElem_cons_zero, List.getElem_cons_succ]
                refine wpAnyH_take (i := 5) (v := ?_) rfl (by kernel_rfl) (by kernel_rfl) (by kernel_rfl) (fun _ _ _ h => h) (Or.inl ⟨by rfl, ?_⟩) (by assumption) ?_
                rotate_left
                · intro wt hSt
                  try dsimp only at hSt
                  first | (go_simp; done) | (go_simp; with_reducible rfl)
                simp only [Act.put, List.setIfInBounds_toArray, List.set_cons_zero, List.set_cons_succ, List.getElem_toArray, List.getElem_cons_zero, List.getElem_cons_succ]
                refine wpAnyH_take (i := 6) (v := ?_) rfl (by kernel_rfl) (by kernel_rfl) (by kernel_rfl) (fun _ _ _ h => h) (Or.inl ⟨by rfl, ?_⟩) (by assumption) ?_
                rotate_left
                · intro wt hSt
                  try dsimp only at hSt
                  first | (go_simp; done) | (go_simp; with_reducible rfl)
                simp only [Act.put, List.setIfInBounds_toArray, List.set_cons_zero, List.set_cons_succ, List.getElem_toArray, List.getElem_cons_zero, List.getElem_cons_succ]
                refine wpAnyH_take (i := 7) (v := ?_) rfl (by kernel_rfl) (by kernel_rfl) (by kernel_rfl) (fun _ _ _ h => h) (Or.inl ⟨by rfl, ?_⟩) (by assumption) ?_
                rotate_left
                · intro wt hSt
                  try dsimp only at hSt
                  first | (go_simp; done) | (go_simp; with_reducible rfl)
                simp only [Act.put, List.setIfInBounds_toArray, List.set_cons_zero, List.set_cons_succ, List.getElem_toArray, List.getElem_cons_zero, List.getElem_cons_succ]
                refine wpAnyH_ready (rs := [8]) (by kernel_rfl) (by simp) ?_
                refine AllReadyH.cons rfl (fun K hK => ?_) AllReadyH.nil
                go_simp
                go_at_call 14
                refine (hSa _ _ _ _ _ (hS8.rU.drewN 1) (HU.out _ (hS8.rA.drewN 1))).out.mono ?_
                rintro e w9 ⟨rfl, hb9'⟩
                have hb9 : Below w10.heap.size w10 w9 := below_chain (bdrew (Below.refl _ _)) hb9'
                go_wp2_with fail
                refine hK.out _ _ ⟨(hS8.q.below hb9).get2.1.1, (hS8.q.below hb9).get2.1.2, (hS8.y.below hb9).get2.1.1, (hS8.y.below hb9).get2.1.2⟩ (fun hHeld => ?_)
                clear hK K
                refine wpAnyH_take (i := 9) (v := ?_) rfl (by kernel_rfl) (by kernel_rfl) (by kernel_rfl) (fun _ _ _ h => h) (Or.inl ⟨by rfl, ?_⟩) (by assumption) ?_
                rotate_left
                · intro wt hSt
                  try dsimp only at hSt
                  first | (go_simp; done) | (go_simp; with_reducible rfl)
                simp only [Act.put, List.setIfInBounds_toArray, List.set_cons_zero, List.set_cons_succ, List.getElem_toArray, List.getElem_cons_zero, List.getElem_cons_succ]
                refine wpAnyH_take (i := 10) (v := ?_) rfl (by kernel_rfl) (by kernel_rfl) (by kernel_rfl) (fun _ _ _ h => h) (Or.inl ⟨by rfl, ?_⟩) (by assumption) ?_
                rotate_left
                · intro wt hSt
                  try dsimp only at hSt
                  first | (go_simp; done) | (go_simp; with_reducible rfl)
                simp only [Act.put, List.setIfInBounds_toArray, List.set_cons_zero, List.set_cons_succ, List.getElem_toArray, List.getElem_cons_zero, List.getElem_cons_succ]
                refine wpAnyH_take (i := 11) (v := ?_) rfl (by kernel_rfl) (by kernel_rfl) (by kernel_rfl) (fun _ _ _ h => h) (Or.inl ⟨by rfl, ?_⟩) (by assumption) ?_
                rotate_left
                · intro wt hSt
                  try dsimp only at hSt
                  first | (go_simp; done) | (go_simp; with_reducible rfl)
                simp only [Act.put, List.setIfInBounds_toArray, List.set_cons_zero, List.set_cons_succ, List.getElem_toArray, List.getElem_cons_zero, List.getElem_cons_succ]
                refine wpAnyH_take (i := 12) (v := ?_) rfl (by kernel_rfl) (by kernel_rfl) (by kernel_rfl) (fun _ _ _ h => h) (Or.inl ⟨by rfl, ?_⟩) (by assumption) ?_
                rotate_left
                · intro wt hSt
                  try dsimp only at hSt
                  first | (go_simp; done) | (go_simp; with_reducible rfl)
                simp only [Act.put, List.setIfInBounds_toArray, List.set_cons_zero, List.set_cons_succ, List.getElem_toArray, List.getElem_cons_zero, List.getElem_cons_succ]
                refine wpAnyH_take (i := 13) (v := ?_) rfl (by kernel_rfl) (by kernel_rfl) (by kernel_rfl) (fun _ _ _ h => h) (Or.inl ⟨by rfl, ?_⟩) (by assumption) ?_
                rotate_left
                · intro wt hSt
                  try dsimp only at hSt
                  first | (go_simp; done) | (go_simp; with_reducible rfl)
                simp only [Act.put, List.setIfInBounds_toArray, List.set_cons_zero, List.set_cons_succ, List.getElem_toArray, List.getElem_cons_zero, List.getElem_cons_succ]
                refine wpAnyH_take (i := 14) (v := ?_) rfl (by kernel_rfl) (by kernel_rfl) (by kernel_rfl) (fun _ _ _ h => h) (Or.inl ⟨by rfl, ?_⟩) (by assumption) ?_
                rotate_left
                · intro wt hSt
                  try dsimp only at hSt
                  first | (go_simp; done) | (go_simp; with_reducible rfl)
                simp only [Act.put, List.setIfInBounds_toArray, List.set_cons_zero, List.set_cons_succ, List.getElem_toArray, List.getElem_cons_zero, List.getElem_cons_succ]
                refine wpAnyH_take (i := 15) (v := ?_) rfl (by kernel_rfl) (by kernel_rfl) (by kernel_rfl) (fun _ _ _ h => h) (Or.inl ⟨by rfl, ?_⟩) (by assumption) ?_
                rotate_left
                · intro wt hSt
                  try dsimp only at hSt
                  first | (go_simp; done) | (go_simp; with_reducible rfl)
                simp only [Act.put, List.setIfInBounds_toArray, List.set_cons_zero, List.set_cons_succ, List.getElem_toArray, List.getElem_cons_zero, List.getElem_cons_succ]
                refine wpAnyH_take (i := 16) (v := ?_) rfl (by kernel_rfl) (by kernel_rfl) (by kernel_rfl) (fun _ _ _ h => h) (Or.inl ⟨by rfl, ?_⟩) (by assumption) ?_
                rotate_left
                · intro wt hSt
                  try dsimp only at hSt
                  first | (go_simp; done) | (go_simp; with_reducible rfl)
                simp only [Act.put, List.setIfInBounds_toArray, List.set_cons_zero, List.set_cons_succ, List.getElem_toArray, List.getElem_cons_zero, List.getElem_cons_succ]
                refine wpAnyH_take (i := 17) (v := ?_) rfl (by kernel_rfl) (by kernel_rfl) (by kernel_rfl) (fun _ _ _ h => h) (Or.inl ⟨by rfl, ?_⟩) (by assumption) ?_
                rotate_left
                · intro wt hSt
                  try dsimp only at hSt
                  first | (go_simp; done) | (go_simp; with_reducible rfl)
                simp only [Act.put, List.setIfInBounds_toArray, List.set_cons_zero, List.set_cons_succ, List.getElem_toArray, List.getElem_cons_zero, List.getElem_cons_succ]
                refine wpAnyH_take (i := 18) (v := ?_) rfl (by kernel_rfl) (by kernel_rfl) (by kernel_rfl) (fun _ _ _ h => h) (Or.inl ⟨by rfl, ?_⟩) (by assumption) ?_
                rotate_left
                · intro wt hSt
                  try dsimp only at hSt
                  first | (go_simp; done) | (go_simp; with_reducible rfl)
                simp only [Act.put, List.setIfInBounds_toArray, List.set_cons_zero, List.set_cons_succ, List.getElem_toArray, List.getElem_cons_zero, List.getElem_cons_succ]
                refine wpAnyH_ready (rs := [19]) (by kernel_rfl) (by simp) ?_
                refine AllReadyH.cons rfl (fun K hK => ?_) AllReadyH.nil
                go_simp
                go_at_call 11
                refine (hSq _ _ _ _ _ (hS8.rS.below hb9) (HD.out _ (hS8.rA.below hb9))).out.mono ?_
                rintro e w10 ⟨rfl, hb10'⟩
                have hb10 := below_chain hb9 hb10'
                go_wp2_with fail
                refine hK.out _ _ ⟨(hS8.q.below hb10).get2.1.1, (hS8.q.below hb10).get2.1.2, (hS8.y.below hb10).get2.1.1, (hS8.y.below hb10).get2.1.2⟩ (fun hHeld => ?_)
                clear hK K
                refine wpAnyH_take (i := 20) (v := ?_) rfl (by kernel_rfl) (by kernel_rfl) (by kernel_rfl) (fun _ _ _ h => h) (Or.inl ⟨by rfl, ?_⟩) (by assumption) ?_
                rotate_left
                · intro wt hSt
                  try dsimp only at hSt
                  first | (go_simp; done) | (go_simp; with_reducible rfl)
                simp only [Act.put, List.setIfInBounds_toArray, List.set_cons_zero, List.set_cons_succ, List.getElem_toArray, List.getElem_cons_zero, List.getElem_cons_succ]
                refine wpAnyH_take (i := 21) (v := ?_) rfl (by kernel_rfl) (by kernel_rfl) (by kernel_rfl) (fun _ _ _ h => h) (Or.inl ⟨by rfl, ?_⟩) (by assumption) ?_
                rotate_left
                · intro wt hSt
                  try dsimp only at hSt
                  first | (go_simp; done) | (go_simp; with_reducible rfl)
                simp only [Act.put, List.setIfInBounds_toArray, List.set_cons_zero, List.set_cons_succ, List.getElem_toArray, List.getElem_cons_zero, List.getElem_cons_succ]
                refine wpAnyH_done (by kernel_rfl) ?_ _
                go_wp2
                go_ret
                exact ⟨rfl, below_chain hb08 hb10⟩
set_option maxRecDepth 100000 in
theorem queueTells_lifted (os : Os) (started : os.Started) (H : Type) (enc : TypeId × Value → H) :
    ReturnsInHanded {} Try.checked os 3 .any (Rows.queueTellsSpec.pre6 enc Try.prog Try.f3 Rows.queueTellsRow.domain false) (Rows.queueTellsSpec.post enc Try.prog Try.f3 false true false false) := by
  refine returnsInHanded_of_change (C := Try.checked) own started (by kernel_rfl) Try.func3
    (ChangeSpec.witness6 (enc := enc) (C := Try.checked) false ⟨#[], #[.agg #[.int .i64 0, .slice none 0 0], .agg #[.string ⟨#[]⟩, .string ⟨#[]⟩, .int .u64 0, .int .u64 0], .int .i64 0, .int .i64 0, .int .i64 0, .int .i64 0], []⟩ 8 (by kernel_rfl) (by kernel_rfl) (by kernel_rfl) (by kernel_rfl)) ?_
  intro W base args ds gs before hval0 hW hcnd _
  have hval : ∀ (j : Nat) t v, Try.f3.params[j]? = some t → args[j]? = some v → Value.okWide Try.prog W .any base t v := hval0
  have hW' := hW
  obtain ⟨p, q, hA0, hV, rfl, hfz, hnd⟩ := hW
  have hA : DataW.TrodAll enc Try.prog W 0 (fun _ => true) true Try.f3.params.toList args.toList ds p := hA0
  rw [Try.params3] at hA hval
  obtain ⟨v0, vs0, d0, ds0, p0, q0, hargs, rfl, rfl, h0, r0⟩ := trodAll_cons hA
  obtain ⟨v1, vs1, d1, ds1, p1, q1, rfl, rfl, rfl, h1, r1⟩ := trodAll_cons r0
  obtain ⟨v2, vs2, d2, ds2, p2, q2, rfl, rfl, rfl, h2, r2⟩ := trodAll_cons r1
  obtain ⟨v3, vs3, d3, ds3, p3, q3, rfl, rfl, rfl, h3, r3⟩ := trodAll_cons r2
  obtain ⟨v4, vs4, d4, ds4, p4, q4, rfl, rfl, rfl, h4, r4⟩ := trodAll_cons r3
  obtain ⟨v5, vs5, d5, ds5, p5, q5, rfl, rfl, rfl, h5, r5⟩ := trodAll_cons r4
  obtain ⟨rfl, rfl, rfl⟩ := trodAll_nil r5
  obtain rfl : args = #[v0, v1, v2, v3, v4, v5] := by cases args; simp_all
  obtain ⟨rfl, rfl⟩ := trodVars_none hV
  obtain ⟨m0, A0, c0, s0, rfl, hb0, hm0, hr0, hc0, hd0, hs0⟩ := arg_queue (hval 0 24 v0 rfl rfl) h0
  obtain ⟨n1, w1, x1, t1, rfl, hn1, hw1, hx1, ht1⟩ := arg_ask (hval 1 27 v1 rfl rfl) h1
  obtain ⟨x2, rfl, hx2, hy2⟩ := arg_i64 (hval 2 3 v2 rfl rfl) h2
  obtain ⟨x3, rfl, hx3, hy3⟩ := arg_i64 (hval 3 3 v3 rfl rfl) h3
  obtain ⟨x4, rfl, hx4, hy4⟩ := arg_i64 (hval 4 3 v4 rfl rfl) h4
  obtain ⟨x5, rfl, hx5, hy5⟩ := arg_i64 (hval 5 3 v5 rfl rfl) h5
  refine (queueTells_walk m0 A0 c0 s0 n1 w1 x1 t1 x2 x3 x4 x5 W hm0 hs0 hc0 hd0 hn1 hw1 hr0).mono fun e W' ⟨he, hb⟩ => ?_
  subst he
  exact ⟨_, rfl, post_law laidOut (by decide +kernel) rfl Try.underlying4 (by kernel_rfl) hW' rfl hb⟩

/-- The statement. -/
theorem queueTells_said : Rows.QueueTellsSaid :=
  OpenClaim.holds_of_wide 3 Try.f3 rfl rfl rfl rfl rfl rfl rfl ⟨rfl, rfl, rfl, rfl, rfl⟩ rfl rfl rfl rfl rfl (by kernel_rfl) Try.func3 (by kernel_rfl)
    (of_decide_eq_true (by kernel_rfl)) (by unfold Func.isWrapper; first | (rw [if_pos (by decide +kernel)]; kernel_rfl) | (rw [if_neg (by decide +kernel)]; exact ⟨rfl, rfl⟩))
    (fun os started H enc _ => queueTells_lifted os started H enc)
#print axioms queueTells_said
end Go.Proofs.Ytknhohlpjhkmfaa
