/- package tree: Drop returns the book without a name. It writes nothing that was there. -/
import Derived.Test.YtmmmolbejfdamaaTreeSet
namespace Go.Proofs.Ytmmmolbejfdamaa
open Go.RowKit

set_option maxRecDepth 100000 in
set_option maxHeartbeats 800000 in
theorem treeDrop_no (A : Option Addr) (c : Nat) (es : List Ent) (n : Bytes) (w : World) (hm : es.length ≤ maxLen) (hes : ∀ x ∈ es, x.1.length ≤ maxLen ∧ x.2.length ≤ maxLen) (hn : n.length ≤ maxLen) (hA : Row w A (encells es)) (r : Int) (hr : dropErr es n = r) (h0 : r ≠ 0) :
    Calls Try.prog 30 #[.slice A es.length c, .string (S n)] w fun e w' => e = .returned (.tuple #[.slice none 0 0, .int .i64 r]) ∧ Below w.heap.size w w' := by
  have hC := fun (w : World) hA => Lib.hid (treeCheck A c es w hm hes hA _ rfl)
  have hN := fun w => Lib.hid (pathName n w hn _ rfl)
  by_cases hf : fault es = 0
  · cases hnm : Bin.name n with
    | false =>
      rw [dropErr, askErr, if_pos hf, hnm, if_neg (by simp), if_neg (by simp)] at hr
      rw [hf] at hC
      rw [hnm] at hN
      subst hr
      clear hf hnm h0 hm hes hn
      go_enter Try.func30, Try.ntmps30
      go_wp2_with fail
      refine (hC _ hA).out.mono ?_
      rintro e w1 ⟨rfl, hb1⟩
      go_wp2_with fail
      refine (hN _).out.mono ?_
      rintro e w2 ⟨rfl, rfl⟩
      go_wp2
      go_ret2
      exact ⟨rfl, hb1⟩
    | true =>
      have hg := (fault_ok es).1 hf
      have hF := fun (w : World) hA => Lib.hid (treeFind A c es n w (by have := hg.len; omega) hg.name hnm hA _ _ rfl rfl)
      rw [dropErr, askErr, if_pos hf, hnm, if_pos rfl, if_pos rfl] at hr
      rw [hf] at hC
      rw [hnm] at hN
      cases h4 : there n es with
      | true =>
        rw [if_pos h4] at hr
        exact absurd hr.symm h0
      | false =>
        rw [h4, if_neg (by simp)] at hr
        subst hr
        rw [h4] at hF
        generalize place n es = p at *
        clear hf hnm h0 hm hes hn hg h4
        go_enter Try.func30, Try.ntmps30
        go_wp2_with fail
        refine (hC _ hA).out.mono ?_
        rintro e w1 ⟨rfl, hb1⟩
        go_wp2_with fail
        refine (hN _).out.mono ?_
        rintro e w2 ⟨rfl, rfl⟩
        go_wp2_with fail
        refine (hF _ (hA.below hb1)).out.mono ?_
        rintro e w3 ⟨rfl, hb3⟩
        have hb := below_chain hb1 hb3
        clear hC hN hF hA
        go_wp2
        go_ret2
        exact ⟨rfl, hb⟩
  · rw [dropErr, askErr, if_neg hf, if_neg hf] at hr
    rw [hr] at hC
    have c1 : (r == 0) = false := beq_eq_false_iff_ne.2 h0
    clear hf h0 hm hes hn hN hr
    go_enter Try.func30, Try.ntmps30
    go_wp2_with fail
    refine (hC _ hA).out.mono ?_
    rintro e w1 ⟨rfl, hb1⟩
    go_wp2
    go_ret2
    exact ⟨rfl, hb1⟩

set_option maxRecDepth 100000 in
set_option maxHeartbeats 800000 in
theorem treeDrop_yesS (A : Option Addr) (c : Nat) (es : List Ent) (n : Bytes) (w : World) (hc : es.length ≤ c) (hA : Row w A (encells es)) (h : dropErr es n = 0) :
    Calls Try.prog 30 #[.slice A es.length c, .string (S n)] w (BookGivesS (without n es) w) := by
  obtain ⟨hg, hn, ht⟩ := (dropErr_ok es n).1 h
  obtain ⟨hm, hes⟩ := small_of_good hg
  have hC := fun (w : World) hA => Lib.hid (treeCheck A c es w hm hes hA _ ((fault_ok es).2 hg))
  have hN := fun w => Lib.hid (pathName n w (small_of_name hn) _ hn)
  have hF := fun (w : World) hA => Lib.hid (treeFind A c es n w (by have := hg.len; omega) hg.name hn hA _ _ rfl rfl)
  have HT := Lib.hid (without_at n es hg.order ht)
  have hl := hg.len
  generalize without n es = T at *
  rw [ht] at hF
  obtain ⟨hlt, -⟩ := there_get n es hg.order ht
  generalize place n es = p at *
  have hi0 : (0 : Int) ≤ (p : Int) := by omega
  have hi1 : (p : Int) ≤ (es.length : Int) := by omega
  have hi2 : (p : Int) + 1 ≤ (es.length : Int) := by omega
  have hi3 : (0 : Int) ≤ (p : Int) + 1 := by omega
  have hwr : IntKind.i64.wrap ((p : Int) + 1) = (p : Int) + 1 := by rw [IntKind.wrap_i64]; omega
  have hwn : ((p : Int) + 1).toNat = p + 1 := by omega
  have hcap : c = p + 1 ∨ ∃ d, c = p + 1 + (d + 1) := by
    rcases Nat.lt_or_ge (p + 1) c with h | h
    · exact .inr ⟨c - (p + 1) - 1, by omega⟩
    · exact .inl (by omega)
  clear hg hn hm hes ht h
  rcases hcap with rfl | ⟨d, rfl⟩
  · have hE : es.length = p + 1 := by omega
    obtain ⟨HX⟩ : Nonempty (Hid (∀ w, Row w A (encells (es.drop (p + 1))))) := ⟨fun w => by rw [List.drop_eq_nil_of_le (by omega)]; exact Row.nil_ _ _⟩
    have HL : Hid ((es.take p).length = p ∧ (es.drop (p + 1)).length = 0 ∧ p ≤ 24) := ⟨by rw [List.length_take]; omega, by rw [List.length_drop]; omega, by omega⟩
    rw [hE] at hC hF hi1 hi2 ⊢
    have hi4 : (p : Int) ≤ (p : Int) + 1 := by omega
    have hi5 : p ≤ 24 := by omega
    clear hE hc hl hlt
    go_enter Try.func30, Try.ntmps30
    go_wp2_with fail
    refine (hC _ hA).out.mono ?_
    rintro e w1 ⟨rfl, hb1⟩
    go_wp2_with fail
    refine (hN _).out.mono ?_
    rintro e w2 ⟨rfl, rfl⟩
    go_wp2_with fail
    refine (hF _ (hA.below hb1)).out.mono ?_
    rintro e w3 ⟨rfl, hb3⟩
    have hb := below_chain hb1 hb3
    have hR1 := (hA.below hb).takeE p
    have hJ0 := fun t c d => Lib.hid (concatE2d w3 t A A c d (es.take p) (es.drop (p + 1)) p 0 HL.out.1 HL.out.2.1 (by have := HL.out.2.2; omega) hR1 (HX.out _))
    clear hC hN hF
    go_wp2
    go_region_with (go_at_call 55; refine (hJ0 _ _ _).out.mono ?_; rintro e w4 hJ; rw [← HT.out] at hJ; obtain ⟨D, d, rfl, hown, hb4⟩ := hJ)
    all_goals
      go_wp2
      go_ret2
      exact bookGives_of T w _ w4 D d hown (bdrew (balloc hb _)) hb4
  · have HL : Hid ((es.take p).length = p ∧ (es.drop (p + 1)).length = es.length - (p + 1) ∧ es.length ≤ 24 ∧ p ≤ 24) := ⟨by rw [List.length_take]; omega, List.length_drop, by omega, by omega⟩
    have hi4 : (p : Int) ≤ (p : Int) + 1 + ((d : Int) + 1) := by omega
    have hi7 : (es.length : Int) ≤ (p : Int) + 1 + ((d : Int) + 1) := by omega
    have hi5 : p ≤ p + 1 + (d + 1) := by omega
    have hi6 : ¬ p + 1 + (d + 1) = p + 1 := by omega
    go_enter Try.func30, Try.ntmps30
    go_wp2_with fail
    refine (hC _ hA).out.mono ?_
    rintro e w1 ⟨rfl, hb1⟩
    go_wp2_with fail
    refine (hN _).out.mono ?_
    rintro e w2 ⟨rfl, rfl⟩
    go_wp2_with fail
    refine (hF _ (hA.below hb1)).out.mono ?_
    rintro e w3 ⟨rfl, hb3⟩
    have hb := below_chain hb1 hb3
    have hR1 := (hA.below hb).takeE p
    have hR2 := (hA.below hb).dropE (p + 1)
    have hJ0 := fun t c d => Lib.hid (concatE2d w3 t A _ c d (es.take p) (es.drop (p + 1)) p (es.length - (p + 1)) HL.out.1 HL.out.2.1 (by have := HL.out.2.2; omega) hR1 hR2)
    clear hC hN hF hR1 hR2
    go_wp2
    go_region_with (go_at_call 55; refine (hJ0 _ _ _).out.mono ?_; rintro e w4 hJ; rw [← HT.out] at hJ; obtain ⟨D, d, rfl, hown, hb4⟩ := hJ)
    all_goals
      go_wp2
      go_ret2
      exact bookGives_of T w _ w4 D d hown (bdrew (balloc hb _)) hb4
theorem treeDrop_yes (A : Option Addr) (c : Nat) (es : List Ent) (n : Bytes) (w : World) (hc : es.length ≤ c) (hA : Row w A (encells es)) (h : dropErr es n = 0) :
    Calls Try.prog 30 #[.slice A es.length c, .string (S n)] w (BookGives (without n es) w) := (treeDrop_yesS A c es n w hc hA h).mono fun _ _ k => k.book
end Go.Proofs.Ytmmmolbejfdamaa
