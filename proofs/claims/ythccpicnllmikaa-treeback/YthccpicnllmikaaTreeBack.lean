/- TreeBack: dropping a name that was newly set restores the book. -/
import Derived.Test.YthccpicnllmikaaTreeLive
import Derived.Test.YthccpicnllmikaaTreeDrop
import Derived.Test.YthccpicnllmikaaEqEnts
import Derived.Test.YthccpicnllmikaaArgs
import Derived.Test.YthccpicnllmikaaLaw
namespace Go.Proofs.Ythccpicnllmikaa
open Go.ChangeShapes Go.WideShapes Go.ChangeAt Go.RowKit

theorem setB_good {es : List Ent} {n v : Bytes} (h : setErr es n v = 0) : Good es ∧ Good (setTo n v es) ∧ Bin.name n = true := by
  obtain ⟨hg, hn, hv, ht⟩ := (setErr_ok es n v).1 h
  refine ⟨hg, setTo_good n v es hg hn hv ?_, hn⟩
  rw [← there_stands n es hg.order]
  exact ht

set_option maxRecDepth 100000 in
set_option maxHeartbeats 1000000 in
theorem treeBack_walk (A : Option Addr) (c : Nat) (es : List Ent) (n v : Bytes) (w : World) (hm : es.length ≤ maxLen) (hes : ∀ x ∈ es, x.1.length ≤ maxLen ∧ x.2.length ≤ maxLen) (hc : es.length ≤ c) (hn : n.length ≤ maxLen) (hv : v.length ≤ maxLen) (hA : Row w A (encells es)) :
    Calls Try.prog 7 #[.slice A es.length c, .string (S n), .string (S v)] w fun e w' => e = .returned (.bool true) ∧ Below w.heap.size w w' := by
  have hL := fun w => Lib.hid (trees w)
  by_cases h0 : setErr es n v = 0
  · obtain ⟨hg, hgT, hnn⟩ := setB_good h0
    have hS := fun (w : World) hA => Lib.hid (treeSet_yes A c es n v w hc hA h0)
    have hB : without n (setTo n v es) = without n es := without_setTo n v es hg.order
    have hgB := without_good n hgT
    obtain ⟨hmB, hesB⟩ := small_of_good hgB
    have htT : there n (setTo n v es) = true := by rw [there_stands n _ hgT.order, stands_setTo, if_pos rfl]; rfl
    have hD1 := fun (D : Option Addr) (d : Nat) (w : World) hc hA => Lib.hid (treeDrop_yes D d (setTo n v es) n w hc hA ((dropErr_ok _ n).2 ⟨hgT, hnn, htT⟩))
    have hC := fun (D : Option Addr) (d : Nat) (w : World) hA => Lib.hid (treeCheck D d (without n (setTo n v es)) w hmB hesB hA 0 ((fault_ok _).2 hgB))
    rw [hB] at hD1 hC hmB
    cases ht : there n es with
    | true =>
      have hD2 := fun (w : World) hA => Lib.hid (treeDrop_yes A c es n w hc hA ((dropErr_ok _ n).2 ⟨hg, hnn, ht⟩))
      have hE := fun (D F : Option Addr) (d f : Nat) (w : World) hA hC => Lib.hid (eqEnts D F d f (without n es) (without n es) w hmB true (by simp) hA hC)
      generalize setTo n v es = T at *
      generalize without n es = B at *
      clear hg hgT hnn hgB hmB hesB hm hes hc hn hv h0 hB htT ht
      go_enter Try.func7, Try.ntmps7
      go_wp2_with fail
      refine (hL _).out.mono ?_
      rintro e w1 ⟨rfl, hb1⟩
      go_wp2_with fail
      refine (hS _ (hA.below hb1)).out.mono ?_
      rintro e w2 ⟨D, d, rfl, hown, hb2⟩
      have hb02 := below_chain hb1 hb2
      clear hL hS
      go_wp2_with fail
      refine (hD1 D d _ (own_capE hown) (Row.ownE hown)).out.mono ?_
      rintro e w3 ⟨D3, d3, rfl, hown3, hb3⟩
      have hb03 := below_chain hb02 hb3
      clear hD1
      go_wp2_with fail
      refine (hD2 _ (hA.below hb03)).out.mono ?_
      rintro e w4 ⟨D4, d4, rfl, hown4, hb4⟩
      have hb04 := below_chain hb03 hb4
      have hr3 := (Row.ownE hown3).below hb4
      have hr4 := Row.ownE hown4
      clear hD2 hown hown3 hown4
      go_wp2_with fail
      refine (hC D3 d3 _ hr3).out.mono ?_
      rintro e w5 ⟨rfl, hb5⟩
      go_wp2_with fail
      refine (hE D3 D4 d3 d4 _ (hr3.below hb5) (hr4.below hb5)).out.mono ?_
      rintro e w6 ⟨rfl, m6, rfl⟩
      go_wp2
      go_ret
      exact ⟨rfl, below_drewN (below_chain hb04 hb5) _⟩
    | false =>
      have hD2 := fun (w : World) hA => Lib.hid (treeDrop_no A c es n w hm hes hn hA 5 (by rw [dropErr, if_pos ((askErr_ok es n).2 ⟨hg, hnn⟩), ht, if_neg (by simp)]) (by decide))
      have hst : stands es n = none := by
        have := there_stands n es hg.order
        rw [ht] at this
        cases hs : stands es n with
        | none => rfl
        | some v => rw [hs] at this; cases this
      rw [without_self n es hst hg.order] at hD1 hC hB hmB
      have hE := fun (D F : Option Addr) (d f : Nat) (w : World) hA hC => Lib.hid (eqEnts D F d f es es w hmB true (by simp) hA hC)
      generalize setTo n v es = T at *
      clear hg hgT hnn hgB hmB hesB hm hes hc hn hv h0 hB htT ht hst
      go_enter Try.func7, Try.ntmps7
      go_wp2_with fail
      refine (hL _).out.mono ?_
      rintro e w1 ⟨rfl, hb1⟩
      go_wp2_with fail
      refine (hS _ (hA.below hb1)).out.mono ?_
      rintro e w2 ⟨D, d, rfl, hown, hb2⟩
      have hb02 := below_chain hb1 hb2
      clear hL hS
      go_wp2_with fail
      refine (hD1 D d _ (own_capE hown) (Row.ownE hown)).out.mono ?_
      rintro e w3 ⟨D3, d3, rfl, hown3, hb3⟩
      have hb03 := below_chain hb02 hb3
      clear hD1
      go_wp2_with fail
      refine (hD2 _ (hA.below hb03)).out.mono ?_
      rintro e w4 ⟨rfl, hb4⟩
      have hb04 := below_chain hb03 hb4
      have hr3 := (Row.ownE hown3).below hb4
      clear hD2 hown hown3
      go_wp2_with fail
      refine (hC D3 d3 _ hr3).out.mono ?_
      rintro e w5 ⟨rfl, hb5⟩
      go_wp2_with fail
      refine (hE D3 A d3 c _ (hr3.below hb5) (hA.below (below_chain hb04 hb5))).out.mono ?_
      rintro e w6 ⟨rfl, m6, rfl⟩
      go_wp2
      go_ret
      exact ⟨rfl, below_drewN (below_chain hb04 hb5) _⟩
  · have hS := fun (w : World) hA => Lib.hid (treeSet_no A c es n v w hm hes hn hv hA _ rfl h0)
    have c1 : (setErr es n v == 0) = false := beq_eq_false_iff_ne.2 h0
    generalize setErr es n v = r at *
    clear h0 hm hes hc hn hv
    go_enter Try.func7, Try.ntmps7
    go_wp2_with fail
    refine (hL _).out.mono ?_
    rintro e w1 ⟨rfl, hb1⟩
    go_wp2_with fail
    refine (hS _ (hA.below hb1)).out.mono ?_
    rintro e w2 ⟨rfl, hb2⟩
    go_wp2
    go_ret
    exact ⟨rfl, below_chain hb1 hb2⟩

set_option maxRecDepth 100000 in
theorem treeBack_lifted (os : Os) (started : os.Started) (H : Type) (enc : TypeId × Value → H) :
    ReturnsInHanded {} Try.checked os 7 .any (Rows.treeBackSpec.pre6 enc Try.prog Try.f7 Rows.treeBackRow.domain false) (Rows.treeBackSpec.post enc Try.prog Try.f7 false true false false) := by
  refine returnsInHanded_of_change (C := Try.checked) own started (by kernel_rfl) Try.func7
    (ChangeSpec.witness6 (enc := enc) (C := Try.checked) false ⟨#[], #[.slice none 0 0, .string ⟨#[]⟩, .string ⟨#[]⟩], []⟩ 8 (by kernel_rfl) (by kernel_rfl) (by kernel_rfl) (by kernel_rfl)) ?_
  intro W base args ds gs before hval0 hW hcnd _
  have hval : ∀ (j : Nat) t v, Try.f7.params[j]? = some t → args[j]? = some v → Value.okWide Try.prog W .any base t v := hval0
  have hW' := hW
  obtain ⟨p, q, hA0, hV, rfl, hfz, hnd⟩ := hW
  have hA : DataW.TrodAll enc Try.prog W 0 (fun _ => true) true Try.f7.params.toList args.toList ds p := hA0
  rw [Try.params7] at hA hval
  obtain ⟨v0, vs0, d0, ds0, p0, q0, hargs, rfl, rfl, h0, r0⟩ := trodAll_cons hA
  obtain ⟨v1, vs1, d1, ds1, p1, q1, rfl, rfl, rfl, h1, r1⟩ := trodAll_cons r0
  obtain ⟨v2, vs2, d2, ds2, p2, q2, rfl, rfl, rfl, h2, r2⟩ := trodAll_cons r1
  obtain ⟨rfl, rfl, rfl⟩ := trodAll_nil r2
  obtain rfl : args = #[v0, v1, v2] := by cases args; simp_all
  obtain ⟨rfl, rfl⟩ := trodVars_none hV
  obtain ⟨A0, c0, s0, rfl, hm0, hr0, hs0, hc0, -⟩ := arg_ents (hval 0 22 v0 rfl rfl) h0
  obtain ⟨l1, rfl, hl1⟩ := arg_str (hval 1 9 v1 rfl rfl) h1
  obtain ⟨l2, rfl, hl2⟩ := arg_str (hval 2 9 v2 rfl rfl) h2
  refine (treeBack_walk A0 c0 s0 l1 l2 W hm0 hs0 hc0 hl1 hl2 hr0).mono fun e W' ⟨he, hb⟩ => ?_
  subst he
  exact ⟨_, rfl, post_law laidOut (by decide +kernel) rfl Try.underlying4 (by kernel_rfl) hW' rfl hb⟩

/-- The statement. -/
theorem treeBack_said : Rows.TreeBackSaid :=
  OpenClaim.holds_of_wide 7 Try.f7 rfl rfl rfl rfl rfl rfl rfl ⟨rfl, rfl, rfl, rfl, rfl⟩ rfl rfl rfl rfl rfl (by kernel_rfl) Try.func7 (by kernel_rfl)
    (of_decide_eq_true (by kernel_rfl)) (by unfold Func.isWrapper; first | (rw [if_pos (by decide +kernel)]; kernel_rfl) | (rw [if_neg (by decide +kernel)]; exact ⟨rfl, rfl⟩))
    (fun os started H enc _ => treeBack_lifted os started H enc)
#print axioms treeBack_said
end Go.Proofs.Ythccpicnllmikaa
