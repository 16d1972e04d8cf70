/- clash.lastUnlike returns the last index at which two lists differ; clash.Texts returns the last pair of different strings. They write nothing. -/
import Derived.Test.YteclnibbgdbjfaaClash
import Derived.Test.YteclnibbgdbjfaaAlike
namespace Go.Proofs.Yteclnibbgdbjfaa
set_option maxRecDepth 100000
open Go.RowKit

set_option maxHeartbeats 1000000 in
theorem lastUnlike (A B : Option Addr) (c d n : Nat) (a b : List Bytes) (w : World) (ha : a.length = n) (hb : b.length = n) (hm : n ≤ maxLen) (hA : Row w A (scells a)) (hB : Row w B (scells b)) (r : Int) (hr : lu a b n = r) :
    Calls Try.prog 21 #[.slice A n c, .slice B n d] w fun e w' => e = .returned (.int .i64 r) ∧ ∃ m, w' = w.drewN m := by
  unfold maxLen at hm
  have HA := Lib.hid ha
  have HB := Lib.hid hb
  have HR : Hid (lu a b n = r) := hr
  have hAw := Lib.hid hA
  have hBw := Lib.hid hB
  have hwr : IntKind.i64.wrap ((n : Int) - 1) = (n : Int) - 1 := by rw [IntKind.wrap_i64]; omega
  clear ha hb hr hA hB
  go_enter Try.func21, Try.ntmps21
  go_wp2
  go_loopw [5] (fun i wr => ((i = .int .i64 (-1) ∧ Hid (lu a b 0 = r)) ∨ ∃ j : Nat, j < n ∧ i = .int .i64 j ∧ Hid (lu a b (j + 1) = r)) ∧ Hid (∃ m, wr = w.drewN m)) (fun i _ => (intOf i + 1).toNat)
  case atStart =>
    refine ⟨?_, ⟨0, rfl⟩⟩
    rcases Nat.eq_zero_or_pos n with h | h
    · subst h
      exact .inl ⟨by simp, HR⟩
    · obtain ⟨j, rfl⟩ : ∃ j, n = j + 1 := ⟨n - 1, by omega⟩
      exact .inr ⟨j, by omega, by go_num, HR⟩
  case round =>
    obtain ⟨hrel, HW⟩ := hrel
    clear HR hwr
    rcases hrel with ⟨rfl, HS⟩ | ⟨j, hj, rfl, HS⟩
    · go_wp2
      go_ret
      exact ⟨by rw [← HS.out]; rfl, HW.out⟩
    · have hAr : Row wr A (scells a) := by obtain ⟨m, e⟩ := HW.out; rw [e]; exact hAw.out.drewN m
      have hBr : Row wr B (scells b) := by obtain ⟨m, e⟩ := HW.out; rw [e]; exact hBw.out.drewN m
      have hla := HA.out
      have hlb := HB.out
      obtain ⟨g1, o1, e1, h1⟩ := hAr.strC j (by omega)
      obtain ⟨g2, o2, e2, h2⟩ := hBr.strC j (by omega)
      have hs := HS.out
      rw [lu, List.getElem?_eq_getElem (show j < a.length by omega), List.getElem?_eq_getElem (show j < b.length by omega), Option.getD_some, Option.getD_some] at hs
      have hj0 : (0 : Int) ≤ (j : Int) := by omega
      have hj1 : (j : Int) < (n : Int) := by omega
      generalize a[j]'(by omega) = sa at *
      generalize b[j]'(by omega) = sb at *
      clear HS HA HB hAr hBr hAw hBw hla hlb
      subst e1; subst e2
      by_cases he : sa = sb
      · have c1 : (sa == sb) = true := beq_iff_eq.2 he
        rw [if_pos he] at hs
        have HS' := Lib.hid hs
        clear hs he
        go_wp2
        go_quiet (fail)
        go_wp2
        go_roundw
        case rel =>
          refine ⟨?_, by obtain ⟨m, e⟩ := HW.out; exact ⟨_, by rw [e]; exact World.drewN_drewN _ _ _⟩⟩
          rcases Nat.eq_zero_or_pos j with h | h
          · subst h
            exact .inl ⟨by simp, HS'⟩
          · obtain ⟨i, rfl⟩ : ∃ i, j = i + 1 := ⟨j - 1, by omega⟩
            exact .inr ⟨i, by omega, by go_num, HS'⟩
        case measure => simp [intOf] <;> omega
      · have c1 : (sa == sb) = false := beq_eq_false_iff_ne.2 he
        rw [if_neg he] at hs
        have HS' := Lib.hid hs
        clear hs he
        go_wp2
        go_quiet (fail)
        go_wp2
        go_ret
        exact ⟨by rw [← HS'.out]; rfl, by obtain ⟨m, e⟩ := HW.out; exact ⟨_, by rw [e]; exact World.drewN_drewN _ _ _⟩⟩

theorem alikeB_of (s t : Bytes) : alikeB s t = decide (alikeP s t) := by
  rw [Bool.eq_iff_iff, alikeB_iff, decide_eq_true_iff]; rfl

set_option maxHeartbeats 2000000 in
theorem clashTexts (A B : Option Addr) (c d : Nat) (a b : List Bytes) (w : World) (hm : a.length ≤ maxLen) (ha : ∀ s ∈ a, s.length ≤ maxLen) (hb : ∀ s ∈ b, s.length ≤ maxLen) (hA : Row w A (scells a)) (hB : Row w B (scells b)) (x y : Bytes) (r : Int) (hr : clashOf a b = (x, y, r)) :
    Calls Try.prog 6 #[.slice A a.length c, .slice B b.length d] w fun e w' => e = .returned (.tuple #[.string (S x), .string (S y), .int .i64 r]) ∧ ∃ m, w' = w.drewN m := by
  unfold clashOf at hr
  by_cases h1 : b.length = a.length
  · by_cases h0 : a.length = 0
    · rw [if_pos (.inl h0)] at hr
      injection hr with r1 r2
      injection r2 with r2 r3
      subst r1; subst r2; subst r3
      rw [h1, h0]
      go_enter Try.func6, Try.ntmps6
      go_wp2
      go_ret3
      exact ⟨rfl, 0, rfl⟩
    · rw [if_neg (fun h => h.elim h0 (fun k => k h1))] at hr
      obtain ⟨n, hn⟩ : ∃ n, a.length = n + 1 := ⟨a.length - 1, by omega⟩
      have hnb : b.length = n + 1 := by omega
      rw [last_at a n hn, last_at b n hnb] at hr
      have hL := fun (w : World) hA hB => Lib.hid (lastUnlike A B c d (n + 1) a b w hn hnb (by omega) hA hB _ rfl)
      have hU := lu_srch a b (n + 1) hn hnb (n + 1) (Nat.le_refl _)
      rw [Nat.sub_self, List.drop_zero, List.drop_zero] at hU
      unfold maxLen at hm
      obtain ⟨g, off, hAe, k1⟩ := hA.strC n (by omega)
      obtain ⟨g', off', hBe, k2⟩ := hB.strC n (by omega)
      have hMa := fun w => Lib.hid (markOf (a[n]'(by omega)) w (ha _ (List.getElem_mem _)))
      have hMb := fun w => Lib.hid (markOf (b[n]'(by omega)) w (hb _ (List.getElem_mem _)))
      have hi0 : (0 : Int) ≤ (n : Int) := by omega
      have hi1 : (n : Int) < (n : Int) + 1 := by omega
      have c0 : ((n : Int) + 1 == 0) = false := beq_eq_false_iff_ne.2 (by omega)
      have hwr : IntKind.i64.wrap ((n : Int) + 1 - 1) = (n : Int) := by rw [IntKind.wrap_i64]; omega
      have HA := Lib.hid ha
      have HB := Lib.hid hb
      have HN := Lib.hid hn
      have HNb := Lib.hid hnb
      have HU := Lib.hid hU
      rw [hn] at hm ⊢
      rw [hnb]
      generalize lu a b (n + 1) = i at *
      have hAw := Lib.hid hA
      have hBw := Lib.hid hB
      generalize hza : a[n]'(by omega) = za at *
      generalize hzb : b[n]'(by omega) = zb at *
      by_cases hh : Hash.of za = Hash.of zb
      · rw [if_pos hh] at hr
        have HR := Lib.hid hr
        generalize Hash.of za = ma at *
        generalize Hash.of zb = mb at *
        have c1 : ((ma : Int) == (mb : Int)) = true := beq_iff_eq.2 (by rw [hh])
        clear hh hn hnb h0 h1 ha hb hza hzb hA hB hr hU
        subst hAe; subst hBe
        go_enter Try.func6, Try.ntmps6
        go_wp2
        go_quiet (first | (go_at_call_of 20 za; refine Calls.quiet_of ((hMa _).out)) | (go_at_call_of 20 zb; refine Calls.quiet_of ((hMb _).out)))
        clear k1 k2 hMa hMb hwr hi0 hi1 c0
        have HW' : Hid (∃ m, w.drewN nq = w.drewN m) := ⟨_, rfl⟩
        have hA5 : Row (w.drewN nq) (some ⟨g, off, none⟩) (scells a) := hAw.out.drewN _
        have hB5 : Row (w.drewN nq) (some ⟨g', off', none⟩) (scells b) := hBw.out.drewN _
        clear hAw hBw
        generalize w.drewN nq = w5 at *
        go_wp2_with fail
        refine (hL _ hA5 hB5).out.mono ?_
        rintro e w6 ⟨rfl, m6, hw6⟩
        have HW6 : Hid (∃ m, w6 = w.drewN m) := by obtain ⟨m, e⟩ := HW'.out; exact ⟨_, by rw [hw6, e]; exact World.drewN_drewN _ _ _⟩
        have hA6 : Row w6 (some ⟨g, off, none⟩) (scells a) := by rw [hw6]; exact hA5.drewN _
        have hB6 : Row w6 (some ⟨g', off', none⟩) (scells b) := by rw [hw6]; exact hB5.drewN _
        clear hw6 hA5 hB5 HW' hL
        have hr := HR.out
        rcases HU.out with ⟨hi, hs⟩ | ⟨j, sa, sb, hj, hja, hjb, hi, hs⟩
        · rw [hs] at hr
          injection hr with r1 r2
          injection r2 with r2 r3
          subst r1; subst r2; subst r3
          subst hi
          clear HU HR hs HA HB HN HNb hA6 hB6
          go_wp2
          go_quiet (fail)
          go_wp2
          go_ret3
          exact ⟨rfl, by obtain ⟨m, e⟩ := HW6.out; exact ⟨_, by rw [e]; exact World.drewN_drewN _ _ _⟩⟩
        · rw [hs] at hr
          obtain ⟨g1, o1, e1, h1⟩ := hA6.strQ j sa hja
          obtain ⟨g2, o2, e2, h2⟩ := hB6.strQ j sb hjb
          injection e1 with e1
          injection e1 with e1 e1'
          subst e1; subst e1'
          injection e2 with e2
          injection e2 with e2 e2'
          subst e2; subst e2'
          have hK := fun w => Lib.hid (markAlike sa sb w (HA.out _ (List.mem_of_getElem? hja)) (HB.out _ (List.mem_of_getElem? hjb)) _ (alikeB_of sa sb))
          have hj0 : (0 : Int) ≤ (j : Int) := by omega
          have hj1 : (j : Int) < (n : Int) + 1 := by omega
          subst hi
          clear HU HR hs HA HB HN HNb hA6 hB6 hja hjb
          by_cases hq : alikeP sa sb
          · rw [if_pos hq] at hr
            rw [decide_eq_true hq] at hK
            injection hr with r1 r2
            injection r2 with r2 r3
            subst r1; subst r2; subst r3
            clear hq
            go_wp2
            go_quiet (first | (go_at_call_of 17 sa; refine Calls.quiet_of ((hK _).out)) | fail)
            go_wp2
            have h1' : (w6.drewN nq).cell? _ = _ := h1
            have h2' : (w6.drewN nq).cell? _ = _ := h2
            have HW7 : Hid (∃ m, w6.drewN nq = w.drewN m) := by obtain ⟨m, e⟩ := HW6.out; exact ⟨_, by rw [e]; exact World.drewN_drewN _ _ _⟩
            clear h1 h2 HW6
            generalize w6.drewN nq = w7 at *
            go_quiet (fail)
            go_wp2
            go_ret3
            exact ⟨rfl, by obtain ⟨m, e⟩ := HW7.out; exact ⟨_, by rw [e]; exact World.drewN_drewN _ _ _⟩⟩
          · rw [if_neg hq] at hr
            rw [decide_eq_false hq] at hK
            injection hr with r1 r2
            injection r2 with r2 r3
            subst r1; subst r2; subst r3
            clear hq
            go_wp2
            go_quiet (first | (go_at_call_of 17 sa; refine Calls.quiet_of ((hK _).out)) | fail)
            go_wp2
            go_ret3
            exact ⟨rfl, by obtain ⟨m, e⟩ := HW6.out; exact ⟨_, by rw [e]; exact World.drewN_drewN _ _ _⟩⟩
      · rw [if_neg hh] at hr
        injection hr with r1 r2
        injection r2 with r2 r3
        subst r1; subst r2; subst r3
        generalize Hash.of za = ma at *
        generalize Hash.of zb = mb at *
        have c1 : ((ma : Int) == (mb : Int)) = false := beq_eq_false_iff_ne.2 (by omega)
        clear hh hn hnb h0 h1 ha hb hza hzb hA hB hL hU
        subst hAe; subst hBe
        go_enter Try.func6, Try.ntmps6
        go_wp2
        go_quiet (first | (go_at_call_of 20 za; refine Calls.quiet_of ((hMa _).out)) | (go_at_call_of 20 zb; refine Calls.quiet_of ((hMb _).out)))
        go_wp2
        go_ret3
        exact ⟨rfl, _, rfl⟩
  · rw [if_pos (.inr h1)] at hr
    injection hr with r1 r2
    injection r2 with r2 r3
    subst r1; subst r2; subst r3
    have c1 : ((a.length : Int) == (b.length : Int)) = false := beq_eq_false_iff_ne.2 (by omega)
    clear h1 ha hb
    go_enter Try.func6, Try.ntmps6
    go_wp2
    go_ret3
    exact ⟨rfl, 0, rfl⟩
end Go.Proofs.Yteclnibbgdbjfaa
