/- Package queue: within, checkAsk, Check return what the chapter says. They write nothing that was there. -/
import Derived.Test.YtjcockcilkiggaaGreatJ08
import Derived.Test.YtjcockcilkiggaaGreatJ18
namespace Go.Proofs.YtjcockcilkiggaaGreat
set_option maxRecDepth 100000
open Go.RowKit

set_option maxHeartbeats 400000 in
theorem queueWithin (n a b : Int) (w : World) (r : Bool) (hr : (decide (a ≤ n) && decide (n ≤ b)) = r) :
    Calls Tryz.prog 46 #[.int .i64 n, .int .i64 a, .int .i64 b] w fun e w' => e = .returned (.bool r) ∧ w = w' := by
  subst hr
  cases c1 : decide (a ≤ n) with
  | false =>
    go_enter Tryz.func46, Tryz.ntmps46
    go_wp2
    go_ret
    exact ⟨rfl, rfl⟩
  | true =>
    go_enter Tryz.func46, Tryz.ntmps46
    go_wp2
    go_ret
    exact ⟨rfl, rfl⟩

set_option maxHeartbeats 400000 in
theorem queueAsk (n v : Bytes) (x t : Nat) (w : World) (hn : n.length ≤ maxLen) (hv : v.length ≤ maxLen) (r : Int) (hr : askFault n v = r) :
    Calls Tryz.prog 61 #[.agg #[.string (S n), .string (S v), .int .u64 (x : Int), .int .u64 (t : Int)]] w fun e w' => e = .returned (.int .i64 r) ∧ Below w.heap.size w w' := by
  have hG := fun w => Lib.hid (pathName n w hn _ rfl)
  have hb0 := (Below.refl w.heap.size w).alloc (Nat.le_refl _) (.cells #[.string (S n), .string (S v), .int .u64 (x : Int), .int .u64 (t : Int)] 31)
  unfold maxLen at hv
  unfold askFault at hr
  cases hnm : Bin.name n with
  | false =>
    rw [hnm] at hG hr
    rw [if_neg (by simp)] at hr
    subst hr
    clear hnm
    go_enter Tryz.func61, Tryz.ntmps61
    go_wp2_with fail
    refine (hG _).out.mono ?_
    rintro e w1 ⟨rfl, rfl⟩
    go_wp2
    go_ret
    exact ⟨rfl, hb0⟩
  | true =>
    rw [hnm] at hG hr
    rw [if_pos rfl] at hr
    by_cases h : 20 < v.length
    · rw [if_pos h] at hr
      have c1 : decide ((20 : Int) < (v.length : Int)) = true := decide_eq_true (by omega)
      subst hr
      clear hnm h
      go_enter Tryz.func61, Tryz.ntmps61
      go_wp2_with fail
      refine (hG _).out.mono ?_
      rintro e w1 ⟨rfl, rfl⟩
      go_wp2
      go_ret
      exact ⟨rfl, hb0⟩
    · rw [if_neg h] at hr
      have c1 : decide ((20 : Int) < (v.length : Int)) = false := decide_eq_false (by omega)
      subst hr
      clear hnm h
      go_enter Tryz.func61, Tryz.ntmps61
      go_wp2_with fail
      refine (hG _).out.mono ?_
      rintro e w1 ⟨rfl, rfl⟩
      go_wp2
      go_ret
      exact ⟨rfl, hb0⟩

set_option maxHeartbeats 2000000 in
theorem queueCheck (most : Int) (A : Option Addr) (c : Nat) (l : List Ak) (w : World) (hm : l.length ≤ maxLen) (hl : ∀ x ∈ l, AkFits x) (hA : Row w A (qcells l)) (r : Int) (hr : qfault most l = r) :
    Calls Tryz.prog 32 #[.agg #[.int .i64 most, .slice A l.length c]] w fun e w' => e = .returned (.int .i64 r) ∧ Below w.heap.size w w' := by
  unfold maxLen at hm
  unfold qfault at hr
  have hb0 := (Below.refl w.heap.size w).alloc (Nat.le_refl _) (.cells #[.int .i64 most, .slice A l.length c] 24)
  obtain ⟨f0, -⟩ := (Bx.new w _ rfl _ [.int .i64 most, .slice A l.length c] 24 rfl)
  have x0 := f0 0 (by simp)
  have x1 := f0 1 (by simp)
  simp only [List.getElem_cons_zero, List.getElem_cons_succ] at x0 x1
  have hW := fun w => Lib.hid (queueWithin most 1 30 w _ rfl)
  by_cases h1 : most < 1 ∨ 30 < most
  · rw [if_pos h1] at hr
    subst hr
    have c1 : (decide (1 ≤ most) && decide (most ≤ 30)) = false := by
      rcases h1 with h | h
      · rw [decide_eq_false (by omega : ¬ (1 : Int) ≤ most)]; rfl
      · rw [decide_eq_false (by omega : ¬ most ≤ 30), Bool.and_false]
    rw [c1] at hW
    clear hl hA f0 c1 h1
    go_enter Tryz.func32, Tryz.ntmps32
    go_wp2_with fail
    refine (hW _).out.mono ?_
    rintro e w1 ⟨rfl, rfl⟩
    go_wp2
    go_ret
    exact ⟨rfl, hb0⟩
  rw [if_neg h1] at hr
  have c1 : (decide (1 ≤ most) && decide (most ≤ 30)) = true := by
    rw [decide_eq_true (by omega : (1 : Int) ≤ most), decide_eq_true (by omega : most ≤ 30)]; rfl
  rw [c1] at hW
  by_cases h3 : most < (l.length : Int)
  · rw [if_pos h3] at hr
    subst hr
    clear hl hA f0 h1 c1
    go_enter Tryz.func32, Tryz.ntmps32
    go_wp2_with fail
    refine (hW _).out.mono ?_
    rintro e w1 ⟨rfl, rfl⟩
    go_wp2
    go_ret
    exact ⟨rfl, hb0⟩
  have c3 : decide (most < (l.length : Int)) = false := decide_eq_false h3
  rw [if_neg h3] at hr
  have HR : Hid (r = asksFault (l.drop 0)) := hr.symm
  have HL := Lib.hid hl
  have hl30 : l.length ≤ 30 := by omega
  have hA0 := hA.alloc (.cells #[.int .i64 most, .slice A l.length c] 24)
  clear hr hl f0 h1 h3 hA c1
  go_enter Tryz.func32, Tryz.ntmps32
  go_wp2_with fail
  refine (hW _).out.mono ?_
  rintro e w1 ⟨rfl, rfl⟩
  go_wp2
  generalize w.alloc (.cells #[.int .i64 most, .slice A l.length c] 24) = w0 at *
  go_loopw [19] (fun i wr => ∃ k : Nat, k ≤ l.length ∧ i = .int .i64 k ∧ Hid (r = asksFault (l.drop k)) ∧ Below w0.heap.size w0 wr) (fun i _ => l.length - (intOf i).toNat)
  case atStart => exact ⟨0, Nat.zero_le _, rfl, HR, Below.refl _ _⟩
  case round =>
    obtain ⟨k, hk, rfl, HS, hbl⟩ := hrel
    have hsz := hbl.size
    clear c3 x0 x1 hW
    by_cases hlt : k < l.length
    · obtain ⟨g, off, rfl, j0, j1, j2, j3⟩ := (hA0.below hbl).ask k hlt
      have hx := HL.out _ (List.getElem_mem hlt)
      have hF := fun w => Lib.hid (queueAsk l[k].1 l[k].2.1 l[k].2.2.1 l[k].2.2.2 w hx.1 hx.2 _ rfl)
      have HS' : Hid (r = if askFault l[k].1 l[k].2.1 = 0 then asksFault (l.drop (k + 1)) else askFault l[k].1 l[k].2.1) := by
        show r = _
        rw [HS.out, List.drop_eq_getElem_cons hlt]
        rfl
      generalize askFault l[k].1 l[k].2.1 = q at *
      generalize l[k].1 = a1 at *
      generalize l[k].2.1 = a2 at *
      generalize l[k].2.2.1 = a3 at *
      generalize l[k].2.2.2 = a4 at *
      have i0 : (0 : Int) ≤ (k : Int) := by omega
      have i1 : (k : Int) < (l.length : Int) := by omega
      have hbl2 := hbl.alloc hsz (.cells #[.string (S a1), .string (S a2), .int .u64 (a3 : Int), .int .u64 (a4 : Int)] 31)
      clear HS hx
      by_cases hq : q = 0
      · have HS2 : Hid (r = asksFault (l.drop (k + 1))) := by show r = _; rw [HS'.out, if_pos hq]
        subst hq
        clear HS'
        go_wp2_with fail
        refine (hF _).out.mono ?_
        rintro e w1 ⟨rfl, hb2⟩
        have hbl3 := below_chain hbl2 hb2
        clear hF hb2 hbl2
        go_wp2
        go_roundw
        case rel => exact ⟨k + 1, by omega, by go_num, HS2, hbl3⟩
        case measure => simp [intOf]; omega
      · have HS2 : Hid (r = q) := by show r = _; rw [HS'.out, if_neg hq]
        have c4 : (q != 0) = true := bne_iff_ne.2 hq
        clear HS' hq
        go_wp2_with fail
        refine (hF _).out.mono ?_
        rintro e w1 ⟨rfl, hb2⟩
        have hbl3 := below_chain hbl2 hb2
        clear hF hb2 hbl2
        go_wp2
        go_ret
        exact ⟨by rw [HS2.out]; rfl, below_chain hb0 hbl3⟩
    · have HS2 : Hid (r = 0) := by show r = 0; rw [HS.out, List.drop_eq_nil_of_le (by omega)]; rfl
      clear hA0
      go_wp2
      go_ret
      exact ⟨by rw [HS2.out]; rfl, below_chain hb0 hbl⟩
end Go.Proofs.YtjcockcilkiggaaGreat
