/- package tree: Set returns the book with a name set, Drop the book without a name. They write nothing that was there. -/
import Derived.Test.YtmmmolbejfdamaaTreeCheck
import Derived.Test.YtmmmolbejfdamaaConcatE
import Derived.Deep.Onto
import Derived.Test.YtmmmolbejfdamaaSaid
namespace Go.Proofs.Ytmmmolbejfdamaa
open Go.RowKit

/-- The first error of Set, and of Drop. -/
def setErr (es : List Ent) (n v : Bytes) : Int := if askErr es n = 0 then (if 20 < v.length then 2 else if there n es = false ∧ es.length = 24 then 7 else 0) else askErr es n
def dropErr (es : List Ent) (n : Bytes) : Int := if askErr es n = 0 then (if there n es = true then 0 else 5) else askErr es n
theorem setErr_ok (es : List Ent) (n v : Bytes) : setErr es n v = 0 ↔ Good es ∧ Bin.name n = true ∧ v.length ≤ 20 ∧ (there n es = true ∨ es.length < 24) := by
  unfold setErr
  by_cases h : askErr es n = 0
  · rw [if_pos h]
    obtain ⟨h1, h2⟩ := (askErr_ok es n).1 h
    have hl := h1.len
    by_cases h3 : 20 < v.length
    · rw [if_pos h3]
      exact ⟨fun h => by simp at h, fun h => by have := h.2.2.1; omega⟩
    · rw [if_neg h3]
      by_cases h4 : there n es = false ∧ es.length = 24
      · rw [if_pos h4]
        refine ⟨fun h => by simp at h, fun h => ?_⟩
        rcases h.2.2.2 with h5 | h5
        · rw [h4.1] at h5; cases h5
        · omega
      · rw [if_neg h4]
        refine ⟨fun _ => ⟨h1, h2, by omega, ?_⟩, fun _ => rfl⟩
        cases ht : there n es with
        | true => exact .inl rfl
        | false => exact .inr (by have : es.length ≠ 24 := fun e => h4 ⟨ht, e⟩; omega)
  · rw [if_neg h]
    exact ⟨fun k => absurd k h, fun k => absurd ((askErr_ok es n).2 ⟨k.1, k.2.1⟩) h⟩
theorem dropErr_ok (es : List Ent) (n : Bytes) : dropErr es n = 0 ↔ Good es ∧ Bin.name n = true ∧ there n es = true := by
  unfold dropErr
  by_cases h : askErr es n = 0
  · rw [if_pos h]
    obtain ⟨h1, h2⟩ := (askErr_ok es n).1 h
    cases ht : there n es <;> simp [h1, h2]
  · rw [if_neg h]
    exact ⟨fun k => absurd k h, fun k => absurd ((askErr_ok es n).2 ⟨k.1, k.2.1⟩) h⟩

set_option maxRecDepth 100000 in
set_option maxHeartbeats 800000 in
theorem treeSet_no (A : Option Addr) (c : Nat) (es : List Ent) (n v : Bytes) (w : World) (hm : es.length ≤ maxLen) (hes : ∀ x ∈ es, x.1.length ≤ maxLen ∧ x.2.length ≤ maxLen) (hn : n.length ≤ maxLen) (hv : v.length ≤ maxLen) (hA : Row w A (encells es)) (r : Int) (hr : setErr es n v = r) (h0 : r ≠ 0) :
    Calls Try.prog 29 #[.slice A es.length c, .string (S n), .string (S v)] w fun e w' => e = .returned (.tuple #[.slice none 0 0, .int .i64 r]) ∧ Below w.heap.size w w' := by
  have hC := fun (w : World) hA => Lib.hid (treeCheck A c es w hm hes hA _ rfl)
  have hN := fun w => Lib.hid (pathName n w hn _ rfl)
  unfold maxLen at hv
  by_cases hf : fault es = 0
  · cases hnm : Bin.name n with
    | false =>
      rw [setErr, askErr, if_pos hf, hnm, if_neg (by simp), if_neg (by simp)] at hr
      rw [hf] at hC
      rw [hnm] at hN
      subst hr
      clear hf hnm h0 hm hes hn
      go_enter Try.func29, Try.ntmps29
      go_wp2_with fail
      refine (hC _ hA).out.mono ?_
      rintro e w1 ⟨rfl, hb1⟩
      go_wp2_with fail
      refine (hN _).out.mono ?_
      rintro e w2 ⟨rfl, rfl⟩
      go_wp2
      go_ret2
      exact ⟨rfl, hb1⟩
    | true =>
      have hg := (fault_ok es).1 hf
      have hF := fun (w : World) hA => Lib.hid (treeFind A c es n w (by have := hg.len; omega) hg.name hnm hA _ _ rfl rfl)
      rw [setErr, askErr, if_pos hf, hnm, if_pos rfl, if_pos rfl] at hr
      rw [hf] at hC
      rw [hnm] at hN
      by_cases h20 : 20 < v.length
      · rw [if_pos h20] at hr
        subst hr
        have c2 : decide ((20 : Int) < (v.length : Int)) = true := decide_eq_true (by omega)
        clear hf hnm h0 hm hes hn hF hg h20
        go_enter Try.func29, Try.ntmps29
        go_wp2_with fail
        refine (hC _ hA).out.mono ?_
        rintro e w1 ⟨rfl, hb1⟩
        go_wp2_with fail
        refine (hN _).out.mono ?_
        rintro e w2 ⟨rfl, rfl⟩
        go_wp2
        go_ret2
        exact ⟨rfl, hb1⟩
      · rw [if_neg h20] at hr
        by_cases h4 : there n es = false ∧ es.length = 24
        · rw [if_pos h4] at hr
          subst hr
          have c2 : decide ((20 : Int) < (v.length : Int)) = false := decide_eq_false (by omega)
          have hp := place_le n es
          rw [h4.1] at hF
          rw [h4.2] at hF hC hp ⊢
          generalize place n es = p at *
          have hi0 : (0 : Int) ≤ (p : Int) := by omega
          have hi1 : (p : Int) ≤ 24 := by omega
          clear hf hnm h0 hm hes hn hg h20 h4
          go_enter Try.func29, Try.ntmps29
          go_wp2_with fail
          refine (hC _ hA).out.mono ?_
          rintro e w1 ⟨rfl, hb1⟩
          go_wp2_with fail
          refine (hN _).out.mono ?_
          rintro e w2 ⟨rfl, rfl⟩
          go_wp2_with fail
          refine (hF _ (hA.below hb1)).out.mono ?_
          rintro e w3 ⟨rfl, hb3⟩
          have hb := below_chain hb1 hb3
          clear hC hN hF hA
          go_wp2
          all_goals
            go_ret2
            exact ⟨rfl, hb⟩
        · rw [if_neg h4] at hr
          exact absurd hr.symm h0
  · rw [setErr, askErr, if_neg hf, if_neg hf] at hr
    rw [hr] at hC
    have c1 : (r == 0) = false := beq_eq_false_iff_ne.2 h0
    clear hf h0 hm hes hn hN hr
    go_enter Try.func29, Try.ntmps29
    go_wp2_with fail
    refine (hC _ hA).out.mono ?_
    rintro e w1 ⟨rfl, hb1⟩
    go_wp2
    go_ret2
    exact ⟨rfl, hb1⟩

/-- What Set and Drop leave: a book of their own. -/
def BookGives (T : List Ent) (w : World) (e : Ending) (w' : World) : Prop :=
  ∃ D d, e = .returned (.tuple #[.slice D T.length d, .int .i64 0]) ∧ w'.ownsRow w.heap.size 34 2 (.slice D T.length d) T.length (encells T) ∧ Below w.heap.size w w'

theorem own_capE {w : World} {b : Nat} {e : TypeId} {s n m c : Nat} {A : Option Addr} {xs : List Value} (h : w.ownsRow b e s (.slice A m c) n xs) : n ≤ c := by
  rcases h.2 with ⟨e1, h0⟩ | ⟨g, cap, cur, e1, _, _, hn, _⟩
  · injection e1 with e1 e2 e3
    omega
  · injection e1 with e1 e2 e3
    omega
/-- The same, and what lies behind the book. -/
def BookGivesS (T : List Ent) (w : World) (e : Ending) (w' : World) : Prop :=
  ∃ D d, e = .returned (.tuple #[.slice D T.length d, .int .i64 0]) ∧ ownsS w' w.heap.size (.slice D T.length d) T ∧ Below w.heap.size w w'
theorem BookGivesS.book {T : List Ent} {w : World} {e : Ending} {w' : World} (h : BookGivesS T w e w') : BookGives T w e w' := by
  obtain ⟨D, d, h1, h2, h3⟩ := h
  exact ⟨D, d, h1, h2.row, h3⟩
theorem bookGives_of (T : List Ent) (w w4 w' : World) (D : Option Addr) (d : Nat) (hown : ownsS w' w4.heap.size (.slice D T.length d) T) (hb4 : Below w.heap.size w w4) (hb : Below w4.heap.size w4 w') :
    BookGivesS T w (.returned (.tuple #[.slice D T.length d, .int .i64 0])) w' := ⟨D, d, rfl, hown.mono hb4.size, below_chain hb4 hb⟩

set_option maxRecDepth 100000 in
set_option maxHeartbeats 800000 in
theorem treeSet_yesS (A : Option Addr) (c : Nat) (es : List Ent) (n v : Bytes) (w : World) (hc : es.length ≤ c) (hA : Row w A (encells es)) (h : setErr es n v = 0) :
    Calls Try.prog 29 #[.slice A es.length c, .string (S n), .string (S v)] w (BookGivesS (setTo n v es) w) := by
  obtain ⟨hg, hn, hv, hth⟩ := (setErr_ok es n v).1 h
  obtain ⟨hm, hes⟩ := small_of_good hg
  have hC := fun (w : World) hA => Lib.hid (treeCheck A c es w hm hes hA _ ((fault_ok es).2 hg))
  have hN := fun w => Lib.hid (pathName n w (small_of_name hn) _ hn)
  have hF := fun (w : World) hA => Lib.hid (treeFind A c es n w (by have := hg.len; omega) hg.name hn hA _ _ rfl rfl)
  have HT := Lib.hid (setTo_at n v es hg.order)
  have c2 : decide ((20 : Int) < (v.length : Int)) = false := decide_eq_false (by omega)
  have hl := hg.len
  have hp := place_le n es
  generalize setTo n v es = T at *
  cases ht : there n es with
  | true =>
    rw [ht] at hF HT
    rw [if_pos rfl] at HT
    obtain ⟨hlt, -⟩ := there_get n es hg.order ht
    generalize place n es = p at *
    have hi0 : (0 : Int) ≤ (p : Int) := by omega
    have hi1 : (p : Int) ≤ (es.length : Int) := by omega
    have hi2 : (p : Int) + 1 ≤ (es.length : Int) := by omega
    have hi3 : (0 : Int) ≤ (p : Int) + 1 := by omega
    clear hg hn hm hes hth ht h hv
    go_enter Try.func29, Try.ntmps29
    go_wp2_with fail
    refine (hC _ hA).out.mono ?_
    rintro e w1 ⟨rfl, hb1⟩
    go_wp2_with fail
    refine (hN _).out.mono ?_
    rintro e w2 ⟨rfl, rfl⟩
    go_wp2_with fail
    refine (hF _ (hA.below hb1)).out.mono ?_
    rintro e w3 ⟨rfl, hb3⟩
    have hb := below_chain hb1 hb3
    clear hC hN hF
    go_wp2_with fail
    all_goals
      refine (concatE3' (w3.alloc _) _ _ (by simp) _ _ _ _ _ _ (es.take p) [(n, v)] (es.drop (p + 1)) p 1 (es.length - (p + 1)) (by rw [List.length_take]; omega) rfl List.length_drop (by omega) (((hA.below hb).takeE p).alloc _) (Row.new w3 _ _ (encells [(n, v)]) _ rfl rfl)
        (by first | exact ((hA.below hb).dropE (p + 1)).alloc _ | (rw [List.drop_eq_nil_of_le (by omega)]; exact Row.nil_ _ _))).mono ?_
      rintro e w4 hJ
      rw [← HT.out] at hJ
      obtain ⟨D, d, rfl, hown, hb4⟩ := hJ
      go_wp2
      go_ret2
      exact bookGives_of T w _ w4 D d hown (balloc (balloc hb _) _) hb4
  | false =>
    rw [ht] at hF HT
    rw [if_neg (by simp), Nat.add_zero] at HT
    have hlt : es.length < 24 := by
      rcases hth with hth | hth
      · rw [ht] at hth; cases hth
      · exact hth
    generalize place n es = p at *
    have hi0 : (0 : Int) ≤ (p : Int) := by omega
    have hi1 : (p : Int) ≤ (es.length : Int) := by omega
    have c3 : ((es.length : Int) == 24) = false := beq_eq_false_iff_ne.2 (by omega)
    clear hg hn hm hes hth ht h hv
    go_enter Try.func29, Try.ntmps29
    go_wp2_with fail
    refine (hC _ hA).out.mono ?_
    rintro e w1 ⟨rfl, hb1⟩
    go_wp2_with fail
    refine (hN _).out.mono ?_
    rintro e w2 ⟨rfl, rfl⟩
    go_wp2_with fail
    refine (hF _ (hA.below hb1)).out.mono ?_
    rintro e w3 ⟨rfl, hb3⟩
    have hb := below_chain hb1 hb3
    clear hC hN hF
    go_wp2_with fail
    all_goals
      refine (concatE3' (w3.alloc _) _ _ (by simp) _ _ _ _ _ _ (es.take p) [(n, v)] (es.drop p) p 1 (es.length - p) (by rw [List.length_take]; omega) rfl List.length_drop (by omega) (((hA.below hb).takeE p).alloc _) (Row.new w3 _ _ (encells [(n, v)]) _ rfl rfl)
        (by first | exact ((hA.below hb).dropE p).alloc _ | (rw [List.drop_eq_nil_of_le (by omega)]; exact Row.nil_ _ _))).mono ?_
      rintro e w4 hJ
      rw [← HT.out] at hJ
      obtain ⟨D, d, rfl, hown, hb4⟩ := hJ
      go_wp2
      go_ret2
      exact bookGives_of T w _ w4 D d hown (balloc (balloc hb _) _) hb4
theorem treeSet_yes (A : Option Addr) (c : Nat) (es : List Ent) (n v : Bytes) (w : World) (hc : es.length ≤ c) (hA : Row w A (encells es)) (h : setErr es n v = 0) :
    Calls Try.prog 29 #[.slice A es.length c, .string (S n), .string (S v)] w (BookGives (setTo n v es) w) := (treeSet_yesS A c es n v w hc hA h).mono fun _ _ k => k.book
end Go.Proofs.Ytmmmolbejfdamaa
