/- TreeSets: after Set, Get returns the value, and all other names have the same values as before. -/
import Derived.Test.YthccpicnllmikaaTreeLive
import Derived.Test.YthccpicnllmikaaArgs
import Derived.Test.YthccpicnllmikaaLaw
namespace Go.Proofs.Ythccpicnllmikaa
open Go.ChangeShapes Go.WideShapes Go.ChangeAt Go.RowKit

def getAns (es : List Ent) (n : Bytes) : Bytes × Bool × Int := if askErr es n = 0 then ((stands es n).getD [], (stands es n).isSome, 0) else ([], false, askErr es n)
theorem treeGet (A : Option Addr) (c : Nat) (es : List Ent) (n : Bytes) (w : World) (hm : es.length ≤ maxLen) (hes : ∀ x ∈ es, x.1.length ≤ maxLen ∧ x.2.length ≤ maxLen) (hn : n.length ≤ maxLen) (hA : Row w A (encells es)) (x : Bytes) (b : Bool) (r : Int) (h : getAns es n = (x, b, r)) :
    Calls Try.prog 10 #[.slice A es.length c, .string (S n)] w fun e w' => e = .returned (.tuple #[.string (S x), .bool b, .int .i64 r]) ∧ Below w.heap.size w w' := by
  unfold getAns at h
  by_cases h0 : askErr es n = 0
  · rw [if_pos h0] at h
    injection h with h1 h2
    injection h2 with h2 h3
    subst h1; subst h2; subst h3
    obtain ⟨hg, hn⟩ := (askErr_ok es n).1 h0
    exact treeGet_yes A c es n w hg hn hA _ rfl
  · rw [if_neg h0] at h
    injection h with h1 h2
    injection h2 with h2 h3
    subst h1; subst h2
    exact treeGet_no A c es n w hm hes hn hA r h3 (by rw [← h3]; exact h0)

theorem set_good {es : List Ent} {n v : Bytes} (h : setErr es n v = 0) : Good es ∧ Good (setTo n v es) ∧ Bin.name n = true ∧ v.length ≤ 20 := by
  obtain ⟨hg, hn, hv, ht⟩ := (setErr_ok es n v).1 h
  refine ⟨hg, setTo_good n v es hg hn hv ?_, hn, hv⟩
  rw [← there_stands n es hg.order]
  exact ht

set_option maxRecDepth 100000 in
set_option maxHeartbeats 1000000 in
theorem treeSets_walk (A : Option Addr) (c : Nat) (es : List Ent) (n v o : Bytes) (w : World) (hm : es.length ≤ maxLen) (hes : ∀ x ∈ es, x.1.length ≤ maxLen ∧ x.2.length ≤ maxLen) (hc : es.length ≤ c) (hn : n.length ≤ maxLen) (hv : v.length ≤ maxLen) (ho : o.length ≤ maxLen) (hA : Row w A (encells es)) :
    Calls Try.prog 5 #[.slice A es.length c, .string (S n), .string (S v), .string (S o)] w fun e w' => e = .returned (.bool true) ∧ Below w.heap.size w w' := by
  have hL := fun w => Lib.hid (trees w)
  by_cases h0 : setErr es n v = 0
  · obtain ⟨hg, hgT, hnn, hvv⟩ := set_good h0
    have hS := fun (w : World) hA => Lib.hid (treeSet_yes A c es n v w hc hA h0)
    obtain ⟨hmT, hesT⟩ := small_of_good hgT
    have hG1 := fun (D : Option Addr) (d : Nat) (w : World) hA => Lib.hid (treeGet_yes D d (setTo n v es) n w hgT hnn hA (some v) (by rw [stands_setTo, if_pos rfl]))
    have hC := fun (D : Option Addr) (d : Nat) (w : World) hA => Lib.hid (treeCheck D d (setTo n v es) w hmT hesT hA 0 ((fault_ok _).2 hgT))
    obtain ⟨x1, b1, r1, hx1⟩ : ∃ x b r, getAns (setTo n v es) o = (x, b, r) := ⟨_, _, _, rfl⟩
    obtain ⟨x2, b2, r2, hx2⟩ : ∃ x b r, getAns es o = (x, b, r) := ⟨_, _, _, rfl⟩
    have hG2 := fun (D : Option Addr) (d : Nat) (w : World) hA => Lib.hid (treeGet D d (setTo n v es) o w hmT hesT ho hA x1 b1 r1 hx1)
    have hG3 := fun (w : World) hA => Lib.hid (treeGet A c es o w hm hes ho hA x2 b2 r2 hx2)
    have hrr : r1 = r2 ∧ ((o == n) = true ∨ (o == n) = false ∧ x1 = x2 ∧ b1 = b2) := by
      unfold getAns at hx1 hx2
      by_cases hno : Bin.name o = true
      · rw [if_pos ((askErr_ok _ o).2 ⟨hgT, hno⟩)] at hx1
        rw [if_pos ((askErr_ok _ o).2 ⟨hg, hno⟩)] at hx2
        injection hx1 with h1 h2
        injection h2 with h2 h3
        injection hx2 with k1 k2
        injection k2 with k2 k3
        refine ⟨by rw [← h3, ← k3], ?_⟩
        by_cases e : o = n
        · exact .inl (beq_iff_eq.2 e)
        · rw [stands_setTo, if_neg e] at h1 h2
          exact .inr ⟨beq_eq_false_iff_ne.2 e, by rw [← h1, ← k1], by rw [← h2, ← k2]⟩
      · have e1 : askErr (setTo n v es) o = 3 := by rw [askErr, if_pos ((fault_ok _).2 hgT), if_neg hno]
        have e2 : askErr es o = 3 := by rw [askErr, if_pos ((fault_ok _).2 hg), if_neg hno]
        rw [e1, if_neg (by decide)] at hx1
        rw [e2, if_neg (by decide)] at hx2
        injection hx1 with h1 h2
        injection h2 with h2 h3
        injection hx2 with k1 k2
        injection k2 with k2 k3
        exact ⟨by rw [← h3, ← k3], .inr ⟨beq_eq_false_iff_ne.2 fun e => hno (by rw [e]; exact hnn), by rw [← h1, ← k1], by rw [← h2, ← k2]⟩⟩
    obtain ⟨rfl, hcase⟩ := hrr
    generalize setTo n v es = T at *
    clear hg hgT hnn hvv hmT hesT hx1 hx2 hm hes hc hn hv ho h0
    rcases hcase with hq | ⟨hq, rfl, rfl⟩ <;>
    · go_enter Try.func5, Try.ntmps5
      go_wp2_with fail
      refine (hL _).out.mono ?_
      rintro e w1 ⟨rfl, hb1⟩
      go_wp2_with fail
      refine (hS _ (hA.below hb1)).out.mono ?_
      rintro e w2 ⟨D, d, rfl, hown, hb2⟩
      have hD := Row.ownE hown
      have hb02 := below_chain hb1 hb2
      clear hown hL hS
      go_wp2_with fail
      refine (hG1 D d _ hD).out.mono ?_
      rintro e w3 ⟨rfl, hb3⟩
      go_wp2_with fail
      refine (hG2 D d _ (hD.below hb3)).out.mono ?_
      rintro e w4 ⟨rfl, hb4⟩
      have hb34 := below_chain hb3 hb4
      go_wp2_with fail
      refine (hG3 _ (hA.below (below_chain hb02 hb34))).out.mono ?_
      rintro e w5 ⟨rfl, hb5⟩
      have hb35 := below_chain hb34 hb5
      clear hG1 hG2 hG3
      go_wp2_with fail
      refine (hC D d _ (hD.below hb35)).out.mono ?_
      rintro e w6 ⟨rfl, hb6⟩
      go_wp2
      go_ret
      exact ⟨rfl, below_chain (below_chain hb02 hb35) hb6⟩
  · have hS := fun (w : World) hA => Lib.hid (treeSet_no A c es n v w hm hes hn hv hA _ rfl h0)
    have c1 : (setErr es n v == 0) = false := beq_eq_false_iff_ne.2 h0
    generalize setErr es n v = r at *
    clear h0 hm hes hc hn hv ho
    go_enter Try.func5, Try.ntmps5
    go_wp2_with fail
    refine (hL _).out.mono ?_
    rintro e w1 ⟨rfl, hb1⟩
    go_wp2_with fail
    refine (hS _ (hA.below hb1)).out.mono ?_
    rintro e w2 ⟨rfl, hb2⟩
    go_wp2
    go_ret
    exact ⟨rfl, below_chain hb1 hb2⟩

set_option maxRecDepth 100000 in
theorem treeSets_lifted (os : Os) (started : os.Started) (H : Type) (enc : TypeId × Value → H) :
    ReturnsInHanded {} Try.checked os 5 .any (Rows.treeSetsSpec.pre6 enc Try.prog Try.f5 Rows.treeSetsRow.domain false) (Rows.treeSetsSpec.post enc Try.prog Try.f5 false true false false) := by
  refine returnsInHanded_of_change (C := Try.checked) own started (by kernel_rfl) Try.func5
    (ChangeSpec.witness6 (enc := enc) (C := Try.checked) false ⟨#[], #[.slice none 0 0, .string ⟨#[]⟩, .string ⟨#[]⟩, .string ⟨#[]⟩], []⟩ 8 (by kernel_rfl) (by kernel_rfl) (by kernel_rfl) (by kernel_rfl)) ?_
  intro W base args ds gs before hval0 hW hcnd _
  have hval : ∀ (j : Nat) t v, Try.f5.params[j]? = some t → args[j]? = some v → Value.okWide Try.prog W .any base t v := hval0
  have hW' := hW
  obtain ⟨p, q, hA0, hV, rfl, hfz, hnd⟩ := hW
  have hA : DataW.TrodAll enc Try.prog W 0 (fun _ => true) true Try.f5.params.toList args.toList ds p := hA0
  rw [Try.params5] at hA hval
  obtain ⟨v0, vs0, d0, ds0, p0, q0, hargs, rfl, rfl, h0, r0⟩ := trodAll_cons hA
  obtain ⟨v1, vs1, d1, ds1, p1, q1, rfl, rfl, rfl, h1, r1⟩ := trodAll_cons r0
  obtain ⟨v2, vs2, d2, ds2, p2, q2, rfl, rfl, rfl, h2, r2⟩ := trodAll_cons r1
  obtain ⟨v3, vs3, d3, ds3, p3, q3, rfl, rfl, rfl, h3, r3⟩ := trodAll_cons r2
  obtain ⟨rfl, rfl, rfl⟩ := trodAll_nil r3
  obtain rfl : args = #[v0, v1, v2, v3] := by cases args; simp_all
  obtain ⟨rfl, rfl⟩ := trodVars_none hV
  obtain ⟨A0, c0, s0, rfl, hm0, hr0, hs0, hc0, -⟩ := arg_ents (hval 0 22 v0 rfl rfl) h0
  obtain ⟨l1, rfl, hl1⟩ := arg_str (hval 1 9 v1 rfl rfl) h1
  obtain ⟨l2, rfl, hl2⟩ := arg_str (hval 2 9 v2 rfl rfl) h2
  obtain ⟨l3, rfl, hl3⟩ := arg_str (hval 3 9 v3 rfl rfl) h3
  refine (treeSets_walk A0 c0 s0 l1 l2 l3 W hm0 hs0 hc0 hl1 hl2 hl3 hr0).mono fun e W' ⟨he, hb⟩ => ?_
  subst he
  exact ⟨_, rfl, post_law laidOut (by decide +kernel) rfl Try.underlying4 (by kernel_rfl) hW' rfl hb⟩

/-- The statement. -/
theorem treeSets_said : Rows.TreeSetsSaid :=
  OpenClaim.holds_of_wide 5 Try.f5 rfl rfl rfl rfl rfl rfl rfl ⟨rfl, rfl, rfl, rfl, rfl⟩ rfl rfl rfl rfl rfl (by kernel_rfl) Try.func5 (by kernel_rfl)
    (of_decide_eq_true (by kernel_rfl)) (by unfold Func.isWrapper; first | (rw [if_pos (by decide +kernel)]; kernel_rfl) | (rw [if_neg (by decide +kernel)]; exact ⟨rfl, rfl⟩))
    (fun os started H enc _ => treeSets_lifted os started H enc)
#print axioms treeSets_said
end Go.Proofs.Ythccpicnllmikaa
