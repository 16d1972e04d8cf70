/- Queues: the error of one; the reference's QueueFault and SameQueue. They write nothing that was there. -/
import Derived.Test.YtknhohlpjhkmfaaAskRow
import Derived.Test.YtknhohlpjhkmfaaAskEq
import Derived.Test.YtknhohlpjhkmfaaRefAsk
namespace Go.Proofs.Ytknhohlpjhkmfaa
set_option maxRecDepth 100000
open Go.RowKit

/-- The first error of requests. -/
def asksFault : List Ak → Int
  | [] => 0
  | x :: l => if askFault x.1 x.2.1 = 0 then asksFault l else askFault x.1 x.2.1
/-- The error of a queue. -/
def qfault (most : Int) (l : List Ak) : Int := if most < 1 ∨ 30 < most then 4 else if most < (l.length : Int) then 7 else asksFault l
theorem asksFault_ok (l : List Ak) : asksFault l = 0 ↔ ∀ x ∈ l, askFault x.1 x.2.1 = 0 := by
  induction l with
  | nil => simp [asksFault]
  | cons x l ih =>
    rw [asksFault]
    by_cases h : askFault x.1 x.2.1 = 0
    · rw [if_pos h, ih]
      simp [h]
    · rw [if_neg h]
      exact ⟨fun e => absurd e h, fun e => e x (by simp)⟩
/-- A queue. -/
structure QGood (most : Int) (l : List Ak) : Prop where
  m1 : 1 ≤ most
  m30 : most ≤ 30
  len : (l.length : Int) ≤ most
  each : ∀ x ∈ l, askFault x.1 x.2.1 = 0
theorem qfault_ok (most : Int) (l : List Ak) : qfault most l = 0 ↔ QGood most l := by
  unfold qfault
  constructor
  · intro h
    split at h
    · cases h
    · split at h
      · cases h
      · exact ⟨by omega, by omega, by omega, (asksFault_ok l).1 h⟩
  · rintro ⟨h1, h2, h3, h4⟩
    rw [if_neg (by omega), if_neg (by omega)]
    exact (asksFault_ok l).2 h4
/-- A request's strings fit. -/
def AkFits (x : Ak) : Prop := x.1.length ≤ maxLen ∧ x.2.1.length ≤ maxLen

set_option maxHeartbeats 2000000 in
theorem refQueueFault (most : Int) (A : Option Addr) (c : Nat) (l : List Ak) (w : World) (hm : l.length ≤ maxLen) (hl : ∀ x ∈ l, AkFits x) (hA : Row w A (qcells l)) (r : Int) (hr : qfault most l = r) :
    Calls Try.prog 9 #[.agg #[.int .i64 most, .slice A l.length c]] w fun e w' => e = .returned (.int .i64 r) ∧ Below w.heap.size w w' := by
  unfold maxLen at hm
  unfold qfault at hr
  have hb0 := (Below.refl w.heap.size w).alloc (Nat.le_refl _) (.cells #[.int .i64 most, .slice A l.length c] 24)
  obtain ⟨f0, -⟩ := (Bx.new w _ rfl _ [.int .i64 most, .slice A l.length c] 24 rfl)
  have x0 := f0 0 (by simp)
  have x1 := f0 1 (by simp)
  simp only [List.getElem_cons_zero, List.getElem_cons_succ] at x0 x1
  by_cases h1 : most < 1
  · rw [if_pos (.inl h1)] at hr
    subst hr
    clear hl hA f0
    go_enter Try.func9, Try.ntmps9
    go_wp2
    go_ret
    exact ⟨rfl, hb0⟩
  have c1 : decide (most < 1) = false := decide_eq_false h1
  by_cases h2 : 30 < most
  · rw [if_pos (.inr h2)] at hr
    subst hr
    clear hl hA f0 h1
    go_enter Try.func9, Try.ntmps9
    go_wp2
    go_ret
    exact ⟨rfl, hb0⟩
  have c2 : decide (30 < most) = false := decide_eq_false h2
  rw [if_neg (by omega)] at hr
  by_cases h3 : most < (l.length : Int)
  · rw [if_pos h3] at hr
    subst hr
    clear hl hA f0 h1 h2
    go_enter Try.func9, Try.ntmps9
    go_wp2
    go_ret
    exact ⟨rfl, hb0⟩
  have c3 : decide (most < (l.length : Int)) = false := decide_eq_false h3
  rw [if_neg h3] at hr
  have HR : Hid (r = asksFault (l.drop 0)) := hr.symm
  have HL := Lib.hid hl
  have hl30 : l.length ≤ 30 := by omega
  have hA0 := hA.alloc (.cells #[.int .i64 most, .slice A l.length c] 24)
  clear hr hl f0 h1 h2 h3 hA
  go_enter Try.func9, Try.ntmps9
  go_wp2
  generalize w.alloc (.cells #[.int .i64 most, .slice A l.length c] 24) = w0 at *
  go_loopw [23] (fun i wr => ∃ k : Nat, k ≤ l.length ∧ i = .int .i64 k ∧ Hid (r = asksFault (l.drop k)) ∧ Below w0.heap.size w0 wr) (fun i _ => l.length - (intOf i).toNat)
  case atStart => exact ⟨0, Nat.zero_le _, rfl, HR, Below.refl _ _⟩
  case round =>
    obtain ⟨k, hk, rfl, HS, hbl⟩ := hrel
    have hsz := hbl.size
    clear c1 c2 c3 x0 x1
    by_cases hlt : k < l.length
    · obtain ⟨g, off, rfl, j0, j1, j2, j3⟩ := (hA0.below hbl).ask k hlt
      have hx := HL.out _ (List.getElem_mem hlt)
      have hF := fun w => Lib.hid (refAskFault l[k].1 l[k].2.1 w hx.1 hx.2 _ rfl)
      have HS' : Hid (r = if askFault l[k].1 l[k].2.1 = 0 then asksFault (l.drop (k + 1)) else askFault l[k].1 l[k].2.1) := by
        show r = _
        rw [HS.out, List.drop_eq_getElem_cons hlt]
        rfl
      generalize askFault l[k].1 l[k].2.1 = q at *
      generalize l[k].1 = a1 at *
      generalize l[k].2.1 = a2 at *
      generalize l[k].2.2.1 = a3 at *
      generalize l[k].2.2.2 = a4 at *
      have i0 : (0 : Int) ≤ (k : Int) := by omega
      have i1 : (k : Int) < (l.length : Int) := by omega
      have hbl2 := hbl.alloc hsz (.cells #[.string (S a1), .string (S a2), .int .u64 (a3 : Int), .int .u64 (a4 : Int)] 27)
      clear HS hx
      by_cases hq : q = 0
      · have HS2 : Hid (r = asksFault (l.drop (k + 1))) := by show r = _; rw [HS'.out, if_pos hq]
        subst hq
        clear HS'
        go_wp2_with fail
        refine (hF _).out.mono ?_
        rintro e w1 ⟨rfl, hw⟩
        subst hw
        clear hF
        go_wp2
        go_roundw
        case rel => exact ⟨k + 1, by omega, by go_num, HS2, hbl2⟩
        case measure => simp [intOf]; omega
      · have HS2 : Hid (r = q) := by show r = _; rw [HS'.out, if_neg hq]
        have c4 : (q != 0) = true := bne_iff_ne.2 hq
        clear HS' hq
        go_wp2_with fail
        refine (hF _).out.mono ?_
        rintro e w1 ⟨rfl, hw⟩
        subst hw
        clear hF
        go_wp2
        go_ret
        exact ⟨by rw [HS2.out]; rfl, below_chain hb0 hbl2⟩
    · have HS2 : Hid (r = 0) := by show r = 0; rw [HS.out, List.drop_eq_nil_of_le (by omega)]; rfl
      clear hA0
      go_wp2
      go_ret
      exact ⟨by rw [HS2.out]; rfl, below_chain hb0 hbl⟩

set_option maxHeartbeats 2000000 in
theorem refSameQueue (m n : Int) (A B : Option Addr) (c d : Nat) (l k : List Ak) (w : World) (hl : l.length ≤ maxLen) (hA : Row w A (qcells l)) (hB : Row w B (qcells k)) (r : Bool) (hr : (m == n && decide (l = k)) = r) :
    Calls Try.prog 11 #[.agg #[.int .i64 m, .slice A l.length c], .agg #[.int .i64 n, .slice B k.length d]] w fun e w' => e = .returned (.bool r) ∧ Below w.heap.size w w' := by
  have hS := fun (w : World) hA hB => Lib.hid (refSameAsks A B c d l k w hl _ rfl hA hB)
  have hb1 := (Below.refl w.heap.size w).alloc (Nat.le_refl _) (.cells #[.int .i64 m, .slice A l.length c] 24)
  have hb2 := hb1.alloc hb1.size (.cells #[.int .i64 n, .slice B k.length d] 24)
  have y := Bx.new w _ rfl _ [.int .i64 m, .slice A l.length c] 24 rfl
  have y2 := y.alloc (.cells #[.int .i64 n, .slice B k.length d] 24)
  have z := Bx.new (w.alloc (.cells #[.int .i64 m, .slice A l.length c] 24)) _ rfl _ [.int .i64 n, .slice B k.length d] 24 rfl
  have y0 := y2.c 0 (by simp)
  have y1 := y2.c 1 (by simp)
  have z0 := z.c 0 (by simp)
  have z1 := z.c 1 (by simp)
  have hA2 := (hA.alloc (.cells #[.int .i64 m, .slice A l.length c] 24)).alloc (.cells #[.int .i64 n, .slice B k.length d] 24)
  have hB2 := (hB.alloc (.cells #[.int .i64 m, .slice A l.length c] 24)).alloc (.cells #[.int .i64 n, .slice B k.length d] 24)
  simp only [List.getElem_cons_zero, List.getElem_cons_succ] at y0 y1 z0 z1
  have HR := Lib.hid hr
  generalize decide (l = k) = q at *
  clear hr y y2 z hA hB
  cases c1 : m == n with
  | false =>
    have HF : Hid (r = false) := by show r = false; rw [← HR.out, c1]; rfl
    clear HR hS hA2 hB2
    go_enter Try.func11, Try.ntmps11
    go_wp2
    go_ret
    exact ⟨by rw [HF.out]; rfl, hb2⟩
  | true =>
    have HF : Hid (r = q) := by show r = q; rw [← HR.out, c1]; rfl
    clear HR
    go_enter Try.func11, Try.ntmps11
    go_wp2_with fail
    refine (hS _ hA2 hB2).out.mono ?_
    rintro e w1 ⟨rfl, s, rfl⟩
    go_wp2
    go_ret
    exact ⟨by rw [HF.out]; rfl, below_drewN hb2 s⟩
end Go.Proofs.Ytknhohlpjhkmfaa
