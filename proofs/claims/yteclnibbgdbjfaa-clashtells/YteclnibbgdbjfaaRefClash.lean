/- The reference: ClashOf returns the last pair of different strings of two lists. It writes nothing. -/
import Derived.Test.YteclnibbgdbjfaaClash
import Derived.Test.YteclnibbgdbjfaaRefMark
namespace Go.Proofs.Yteclnibbgdbjfaa
open Go.RowKit

theorem refMarkS (l : Bytes) (w : World) (hl : l.length ≤ maxLen) :
    Calls Try.prog 25 #[.string (S l)] w fun e w' => e = .returned (.int .u64 (Hash.of l : Int)) ∧ w' = w :=
  (refMark l w hl).mono fun _ _ h => ⟨h.1, h.2.symm⟩

set_option maxRecDepth 100000 in
set_option maxHeartbeats 2000000 in
theorem refClash (A B : Option Addr) (c d : Nat) (a b : List Bytes) (w : World) (hm : a.length ≤ maxLen) (ha : ∀ s ∈ a, s.length ≤ maxLen) (hb : ∀ s ∈ b, s.length ≤ maxLen) (hA : Row w A (scells a)) (hB : Row w B (scells b)) (x y : Bytes) (r : Int) (hr : clashOf a b = (x, y, r)) :
    Calls Try.prog 11 #[.slice A a.length c, .slice B b.length d] w fun e w' => e = .returned (.tuple #[.string (S x), .string (S y), .int .i64 r]) ∧ ∃ m, w' = w.drewN m := by
  unfold maxLen at hm
  unfold clashOf at hr
  by_cases h0 : a.length = 0
  · rw [if_pos (.inl h0)] at hr
    injection hr with r1 r2
    injection r2 with r2 r3
    subst r1; subst r2; subst r3
    rw [h0]
    go_enter Try.func11, Try.ntmps11
    go_wp2
    go_ret3
    exact ⟨rfl, 0, rfl⟩
  · by_cases h1 : b.length = a.length
    · rw [if_neg (fun h => h.elim h0 (fun k => k h1))] at hr
      obtain ⟨n, hn⟩ : ∃ n, a.length = n + 1 := ⟨a.length - 1, by omega⟩
      have hnb : b.length = n + 1 := by omega
      rw [last_at a n hn, last_at b n hnb] at hr
      obtain ⟨g, off, hAe, k1⟩ := hA.strC n (by omega)
      obtain ⟨g', off', hBe, k2⟩ := hB.strC n (by omega)
      have hMa := fun w => Lib.hid (refMarkS (a[n]'(by omega)) w (ha _ (List.getElem_mem _)))
      have hMb := fun w => Lib.hid (refMarkS (b[n]'(by omega)) w (hb _ (List.getElem_mem _)))
      have hi0 : (0 : Int) ≤ (n : Int) := by omega
      have hi1 : (n : Int) < (n : Int) + 1 := by omega
      have c0 : ((n : Int) + 1 == 0) = false := beq_eq_false_iff_ne.2 (by omega)
      have hwr : IntKind.i64.wrap ((n : Int) + 1 - 1) = (n : Int) := by rw [IntKind.wrap_i64]; omega
      have hwr2 : IntKind.i64.wrap (n : Int) = (n : Int) := by rw [IntKind.wrap_i64]; omega
      have HA := Lib.hid ha
      have HB := Lib.hid hb
      have HN := Lib.hid hn
      have HNb := Lib.hid hnb
      rw [hn] at hm ⊢
      rw [hnb]
      generalize hza : a[n]'(by omega) = za at *
      generalize hzb : b[n]'(by omega) = zb at *
      by_cases hh : Hash.of za = Hash.of zb
      · rw [if_pos hh] at hr
        have HR : Hid ((x, y, r) = srch (a.reverse.drop 0) (b.reverse.drop 0)) := by show _ = _; rw [List.drop_zero, List.drop_zero, hr]
        generalize Hash.of za = ma at *
        generalize Hash.of zb = mb at *
        have c1 : ((ma : Int) == (mb : Int)) = true := beq_iff_eq.2 (by rw [hh])
        have c1b : ((ma : Int) != (mb : Int)) = false := by rw [bne, c1]; rfl
        have hAw := Lib.hid hA
        have hBw := Lib.hid hB
        clear hh hn hnb h0 h1 ha hb hza hzb hA hB hr
        subst hAe; subst hBe
        go_enter Try.func11, Try.ntmps11
        go_wp2
        go_quiet (first | (go_at_call_of 25 za; refine Calls.quiet_of_same ((hMa _).out)) | (go_at_call_of 25 zb; refine Calls.quiet_of_same ((hMb _).out)))
        go_wp2
        clear hMa hMb k1 k2 c1 c1b hwr hwr2 hi0 hi1 c0
        go_loopw [34] (fun i wr => ∃ k : Nat, k ≤ n + 1 ∧ i = .int .i64 k ∧ Hid ((x, y, r) = srch (a.reverse.drop k) (b.reverse.drop k)) ∧ Hid (∃ m, wr = w.drewN m)) (fun i _ => n + 1 - (intOf i).toNat)
        case atStart => exact ⟨0, Nat.zero_le _, rfl, HR, ⟨_, rfl⟩⟩
        case round =>
          obtain ⟨k, hk, rfl, HS, HW⟩ := hrel
          clear HR
          have hAr : Row wr (some ⟨g, off, none⟩) (scells a) := by obtain ⟨m, e⟩ := HW.out; rw [e]; exact hAw.out.drewN m
          have hBr : Row wr (some ⟨g', off', none⟩) (scells b) := by obtain ⟨m, e⟩ := HW.out; rw [e]; exact hBw.out.drewN m
          by_cases hlt : k < n + 1
          · have hla := HN.out
            have hlb := HNb.out
            obtain ⟨g1, o1, e1, h1⟩ := hAr.strC (n - k) (by omega)
            obtain ⟨g2, o2, e2, h2⟩ := hBr.strC (n - k) (by omega)
            injection e1 with e1
            injection e1 with e1 e1'
            subst e1; subst e1'
            injection e2 with e2
            injection e2 with e2 e2'
            subst e2; subst e2'
            have hs := HS.out
            rw [rev_drop a n k hla (by omega), rev_drop b n k hlb (by omega), srch] at hs
            have hMa := fun w => Lib.hid (refMarkS (a[n - k]'(by omega)) w (HA.out _ (List.getElem_mem _)))
            have hMb := fun w => Lib.hid (refMarkS (b[n - k]'(by omega)) w (HB.out _ (List.getElem_mem _)))
            have hj0 : (0 : Int) ≤ (n : Int) - (k : Int) := by omega
            have hj1 : (n : Int) - (k : Int) < (n : Int) + 1 := by omega
            have hj2 : ((n : Int) - (k : Int)).toNat = n - k := by omega
            have hj3 : (k : Int) < (n : Int) + 1 := by omega
            generalize a[n - k]'(by omega) = sa at *
            generalize b[n - k]'(by omega) = sb at *
            clear HS HA HB HN HNb hAr hBr hAw hBw hla hlb
            by_cases he : sa = sb
            · have c1 : (sa == sb) = true := beq_iff_eq.2 he
              rw [if_pos he] at hs
              have HS' := Lib.hid hs
              clear hs he hMa hMb
              go_wp2
              go_quiet (fail)
              go_wp2
              go_roundw
              case rel => exact ⟨k + 1, by omega, by go_num, HS', by obtain ⟨m, e⟩ := HW.out; exact ⟨_, by rw [e]; exact World.drewN_drewN _ _ _⟩⟩
              case measure => simp [intOf]; omega
            · have c1 : (sa == sb) = false := beq_eq_false_iff_ne.2 he
              rw [if_neg he] at hs
              by_cases hq : Hash.of sa = Hash.of sb
              · rw [if_pos hq] at hs
                injection hs with s1 s2
                injection s2 with s2 s3
                subst s1; subst s2; subst s3
                generalize Hash.of x = ma at *
                generalize Hash.of y = mb at *
                have c2 : ((ma : Int) == (mb : Int)) = true := beq_iff_eq.2 (by rw [hq])
                clear hq he
                go_wp2
                go_quiet (fail)
                go_wp2
                have h1' : (wr.drewN nq).cell? _ = _ := h1
                have h2' : (wr.drewN nq).cell? _ = _ := h2
                have HW' : Hid (∃ m, wr.drewN nq = w.drewN m) := by obtain ⟨m, e⟩ := HW.out; exact ⟨_, by rw [e]; exact World.drewN_drewN _ _ _⟩
                clear h1 h2 HW
                generalize wr.drewN nq = w5 at *
                go_quiet (first | (go_at_call_of 25 x; refine Calls.quiet_of_same ((hMa _).out)) | (go_at_call_of 25 y; refine Calls.quiet_of_same ((hMb _).out)))
                go_wp2
                go_quiet (fail)
                go_wp2
                go_ret3
                exact ⟨rfl, by obtain ⟨m, e⟩ := HW'.out; exact ⟨_, by rw [e]; simp only [World.drewN_drewN]; rfl⟩⟩
              · rw [if_neg hq] at hs
                injection hs with s1 s2
                injection s2 with s2 s3
                subst s1; subst s2; subst s3
                generalize Hash.of sa = ma at *
                generalize Hash.of sb = mb at *
                have c2 : ((ma : Int) == (mb : Int)) = false := beq_eq_false_iff_ne.2 (by omega)
                clear hq he
                go_wp2
                go_quiet (fail)
                go_wp2
                have h1' : (wr.drewN nq).cell? _ = _ := h1
                have h2' : (wr.drewN nq).cell? _ = _ := h2
                have HW' : Hid (∃ m, wr.drewN nq = w.drewN m) := by obtain ⟨m, e⟩ := HW.out; exact ⟨_, by rw [e]; exact World.drewN_drewN _ _ _⟩
                clear h1 h2 HW
                generalize wr.drewN nq = w5 at *
                go_quiet (first | (go_at_call_of 25 sa; refine Calls.quiet_of_same ((hMa _).out)) | (go_at_call_of 25 sb; refine Calls.quiet_of_same ((hMb _).out)))
                go_wp2
                go_ret3
                exact ⟨rfl, by obtain ⟨m, e⟩ := HW'.out; exact ⟨_, by rw [e]; simp only [World.drewN_drewN]; rfl⟩⟩
          · have hla := HN.out
            have hs := HS.out
            rw [List.drop_eq_nil_of_le (by rw [List.length_reverse]; omega)] at hs
            simp only [srch] at hs
            injection hs with s1 s2
            injection s2 with s2 s3
            subst s1; subst s2; subst s3
            clear HS hAr hBr hla
            go_wp2
            go_ret3
            exact ⟨rfl, HW.out⟩
      · rw [if_neg hh] at hr
        injection hr with r1 r2
        injection r2 with r2 r3
        subst r1; subst r2; subst r3
        generalize Hash.of za = ma at *
        generalize Hash.of zb = mb at *
        have c1 : ((ma : Int) == (mb : Int)) = false := beq_eq_false_iff_ne.2 (by omega)
        clear hh hn hnb h0 h1 ha hb hza hzb hA hB
        subst hAe; subst hBe
        go_enter Try.func11, Try.ntmps11
        go_wp2
        go_quiet (first | (go_at_call_of 25 za; refine Calls.quiet_of_same ((hMa _).out)) | (go_at_call_of 25 zb; refine Calls.quiet_of_same ((hMb _).out)))
        go_wp2
        go_ret3
        exact ⟨rfl, _, rfl⟩
    · rw [if_pos (.inr h1)] at hr
      injection hr with r1 r2
      injection r2 with r2 r3
      subst r1; subst r2; subst r3
      have c0 : ((a.length : Int) == 0) = false := beq_eq_false_iff_ne.2 (by omega)
      have c1 : ((b.length : Int) == (a.length : Int)) = false := beq_eq_false_iff_ne.2 (by omega)
      clear h0 h1 ha hb
      go_enter Try.func11, Try.ntmps11
      go_wp2
      go_ret3
      exact ⟨rfl, 0, rfl⟩
end Go.Proofs.Yteclnibbgdbjfaa
