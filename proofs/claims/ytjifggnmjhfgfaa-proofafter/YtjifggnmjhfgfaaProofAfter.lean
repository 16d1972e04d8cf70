/- ProofAfter: behind a name that is set, the proof's root is the book's. -/
import Derived.Test.YtjifggnmjhfgfaaProofHolds
namespace Go.Proofs.Ytjifggnmjhfgfaa
set_option maxRecDepth 100000
open Go.ChangeShapes Go.WideShapes Go.ChangeAt Go.RowKit

theorem good_2 (a b : Int) (w : World) (g : Nat) (t : TypeId) (hg : g = w.heap.size) (r : Bool) (hr : allOk [a, b] = r) :
    Calls Try.prog 28 #[.slice (some ⟨g, 0, none⟩) 2 2] (w.alloc (.cells #[.int .i64 a, .int .i64 b] t)) fun e w' => e = .returned (.bool r) ∧ w.alloc (.cells #[.int .i64 a, .int .i64 b] t) = w' :=
  good_any (some ⟨g, 0, none⟩) 2 [a, b] _ (by simp) r hr (Row.new w g _ _ t hg rfl)
theorem good_not (a b : Int) (h : a ≠ 0 ∨ b ≠ 0) : allOk [a, b] = false := by
  unfold allOk
  rcases h with h | h <;> simp [h]

theorem set_part {es : List Ent} {n v : Bytes} (h : setErr es n v = 0) : setErr (at16 es (Bin.of n)) n v = 0 := by
  obtain ⟨hg, hn, hv, ht⟩ := (setErr_ok es n v).1 h
  have hp := (proofOf_good hg hn).book
  refine (setErr_ok _ _ _).2 ⟨hp, hn, hv, ?_⟩
  rw [there_stands n _ hp.order, stands_at16, ← there_stands n es hg.order]
  rcases ht with ht | ht
  · exact .inl ht
  · exact .inr (Nat.lt_of_le_of_lt (List.length_filter_le _ _) ht)
theorem after_make {es : List Ent} {n v : Bytes} (h : setErr es n v = 0) : afterErr (prefMark es []) n (at16 es (Bin.of n)) (sidesOf es n) v = 0 ∧ afterAns (prefMark es []) n (at16 es (Bin.of n)) (sidesOf es n) v = prefMark (setTo n v es) [] := by
  obtain ⟨hg, hn, hv, ht⟩ := (setErr_ok es n v).1 h
  have e : afterErr (prefMark es []) n (at16 es (Bin.of n)) (sidesOf es n) v = 0 := (afterErr_ok _ _ _ _ _).2 ⟨(verr_ok _ _ _ _).2 ⟨proofOf_good hg hn, proot_of es n⟩, set_part h⟩
  refine ⟨e, ?_⟩
  rw [afterAns, if_pos e]
  exact proot_setTo es n v hg.order

set_option maxHeartbeats 2000000 in
theorem proofAfter_walk (A : Option Addr) (c : Nat) (es : List Ent) (n v : Bytes) (w : World) (hm : es.length ≤ maxLen) (hes : ∀ x ∈ es, x.1.length ≤ maxLen ∧ x.2.length ≤ maxLen) (hc : es.length ≤ c) (hn : n.length ≤ maxLen) (hv : v.length ≤ maxLen) (hA : Row w A (encells es)) :
    Calls Try.prog 6 #[.slice A es.length c, .string (S n), .string (S v)] w fun e w' => e = .returned (.bool true) ∧ Below w.heap.size w w' := by
  have hL := fun w => Lib.hid (proofs w)
  have hS := fun (w : World) hA => Lib.hid (treeSet_any A c es n v w hm hes hn hv hc hA)
  by_cases h1 : setErr es n v = 0
  · obtain ⟨hg, hnn, hvv, _⟩ := (setErr_ok es n v).1 h1
    rw [setRes, if_pos h1, h1] at hS
    have hK := fun (w : World) hA => Lib.hid (proofMake_yes A c es n w hg hnn hA)
    have hT := fun (w : World) hA => Lib.hid (treeRoot_yes A c es w hg hA _ rfl)
    have hT2 := fun (D : Option Addr) (d : Nat) (w : World) hA => Lib.hid (treeRoot_yes D d (setTo n v es) w (setT_good h1) hA _ rfl)
    have hpg := proofOf_good hg hnn
    obtain ⟨hmL, hesL⟩ := small_of_good hpg.book
    have hM16 : (sidesOf es n).length ≤ maxLen := by rw [hpg.len]; unfold maxLen; omega
    have hF := fun (D F : Option Addr) (d f : Nat) (w : World) hd hA hB => Lib.hid (proofAfter (prefMark es []) n (at16 es (Bin.of n)) (sidesOf es n) v D F d f w hn hmL hesL hM16 hd hv hA hB _ _ (after_make h1).2 (after_make h1).1)
    have h2 := fun w g hg => Lib.hid (good_2 0 0 w g 26 hg true rfl)
    have h3 := fun w g hg => Lib.hid (good_30 w g 26 hg)
    generalize prefMark es [] = x at *
    generalize prefMark (setTo n v es) [] = y at *
    generalize setTo n v es = T at *
    generalize at16 es (Bin.of n) = L at *
    generalize sidesOf es n = M at *
    clear h1 hg hnn hvv hm hes hn hc hv hpg hmL hesL hM16
    go_enter Try.func6, Try.ntmps6
    go_wp2_with fail
    refine (hL _).out.mono ?_
    rintro e w1 ⟨rfl, hb1⟩
    go_wp2_with fail
    refine (hK _ (hA.below hb1)).out.mono ?_
    rintro e w2 ⟨D, d, E, f, rfl, hd, hD, hE, hb2⟩
    have hb02 := below_chain hb1 hb2
    have hD3 := hD.alloc (.cells #[.string (S n), .slice D L.length d, .slice E M.length f] 25)
    have hE3 := hE.alloc (.cells #[.string (S n), .slice D L.length d, .slice E M.length f] 25)
    have hb03 : Below w.heap.size w (w2.alloc (.cells #[.string (S n), .slice D L.length d, .slice E M.length f] 25)) := hb02.alloc hb02.size _
    obtain ⟨k0, k1, k2⟩ := PBox.new w2 n D E L.length d M.length f 25
    clear hK hL hb1 hb2 hb02
    go_wp2_with fail
    generalize w2.alloc (.cells #[.string (S n), .slice D L.length d, .slice E M.length f] 25) = w3 at *
    refine (hS _ (hA.below hb03)).out.mono ?_
    rintro e w4 ⟨G, g4, rfl, _, hG, hb4⟩
    have hx4 := ((PBox.mk k0 k1 k2).below hb4).alloc (.cells #[.int .i64 0, .int .i64 0] 26)
    have hb040 := below_chain hb03 hb4
    have hb04 : Below w.heap.size w (w4.alloc (.cells #[.int .i64 0, .int .i64 0] 26)) := hb040.alloc hb040.size _
    have hD4 := (hD3.below hb4).alloc (.cells #[.int .i64 0, .int .i64 0] 26)
    have hE4 := (hE3.below hb4).alloc (.cells #[.int .i64 0, .int .i64 0] 26)
    have hG4 := hG.alloc (.cells #[.int .i64 0, .int .i64 0] 26)
    clear k0 k1 k2 hS hb4 hb03 hD hE hD3 hE3 hb040 hG
    obtain ⟨k0, k1, k2⟩ := hx4
    go_wp2_with fail
    refine (h2 _ _ rfl).out.mono ?_
    rintro e w5 ⟨rfl, hw5⟩
    rw [hw5] at k0 k1 k2 hb04 hD4 hE4 hG4
    clear hw5 h2
    go_wp2_with fail
    refine (hT _ (hA.below hb04)).out.mono ?_
    rintro e w6 ⟨rfl, hb6⟩
    have hx6 := (PBox.mk k0 k1 k2).below hb6
    have hb06 := below_chain hb04 hb6
    have hD6 := hD4.below hb6
    have hE6 := hE4.below hb6
    have hG6 := hG4.below hb6
    clear k0 k1 k2 hT hb6 hb04 hD4 hE4 hG4
    obtain ⟨k0, k1, k2⟩ := hx6
    go_wp2_with fail
    refine (hF D E d f _ hd hD6 hE6).out.mono ?_
    rintro e w7 ⟨rfl, hb7⟩
    have hb07 := below_chain hb06 hb7
    have hG7 := hG6.below hb7
    clear hF hb7 hb06 hD6 hE6 hG6
    go_wp2_with fail
    refine (hT2 G g4 _ hG7).out.mono ?_
    rintro e w8 ⟨rfl, hb8⟩
    have hb08 := below_chain hb07 hb8
    go_wp2_with fail
    refine (h3 _ _ rfl).out.mono ?_
    rintro e w9 ⟨rfl, hw9⟩
    have hw := hw9.symm
    subst hw
    go_wp2
    go_ret
    exact ⟨by simp, hb08.alloc hb08.size _⟩
  · rw [setRes, if_neg h1] at hS
    have h2 := fun a w g hg => Lib.hid (good_2 a (setErr es n v) w g 26 hg false (good_not _ _ (.inr h1)))
    generalize setErr es n v = r at *
    by_cases h0 : askErr es n = 0
    · obtain ⟨hg, hnn⟩ := (askErr_ok es n).1 h0
      have hK := fun (w : World) hA => Lib.hid (proofMake_yes A c es n w hg hnn hA)
      generalize at16 es (Bin.of n) = L at *
      generalize sidesOf es n = M at *
      clear h1 h0 hg hnn hm hes hn hc hv
      go_enter Try.func6, Try.ntmps6
      go_wp2_with fail
      refine (hL _).out.mono ?_
      rintro e w1 ⟨rfl, hb1⟩
      go_wp2_with fail
      refine (hK _ (hA.below hb1)).out.mono ?_
      rintro e w2 ⟨D, d, E, f, rfl, hd, hD, hE, hb2⟩
      have hb02 := below_chain hb1 hb2
      have hb03 : Below w.heap.size w (w2.alloc (.cells #[.string (S n), .slice D L.length d, .slice E M.length f] 25)) := hb02.alloc hb02.size _
      go_wp2_with fail
      generalize w2.alloc (.cells #[.string (S n), .slice D L.length d, .slice E M.length f] 25) = w3 at *
      refine (hS _ (hA.below hb03)).out.mono ?_
      rintro e w4 ⟨G, g4, rfl, _, hG, hb4⟩
      have hb04 := below_chain hb03 hb4
      go_wp2_with fail
      refine (h2 0 _ _ rfl).out.mono ?_
      rintro e w5 ⟨rfl, hw5⟩
      have hw := hw5.symm
      subst hw
      go_wp2
      go_ret
      exact ⟨rfl, hb04.alloc hb04.size _⟩
    · have hK := fun (w : World) hA => Lib.hid (proofMake_no A c es n w hm hes hn hA _ rfl h0)
      generalize askErr es n = q at *
      clear h1 h0 hm hes hn hc hv
      go_enter Try.func6, Try.ntmps6
      go_wp2_with fail
      refine (hL _).out.mono ?_
      rintro e w1 ⟨rfl, hb1⟩
      go_wp2_with fail
      refine (hK _ (hA.below hb1)).out.mono ?_
      rintro e w2 ⟨rfl, hb2⟩
      have hb02 := below_chain hb1 hb2
      have hb03 : Below w.heap.size w (w2.alloc (.cells #[.string ⟨#[]⟩, .slice none 0 0, .slice none 0 0] 25)) := hb02.alloc hb02.size _
      go_wp2_with fail
      generalize w2.alloc (.cells #[.string ⟨#[]⟩, .slice none 0 0, .slice none 0 0] 25) = w3 at *
      refine (hS _ (hA.below hb03)).out.mono ?_
      rintro e w4 ⟨G, g4, rfl, _, hG, hb4⟩
      have hb04 := below_chain hb03 hb4
      go_wp2_with fail
      refine (h2 q _ _ rfl).out.mono ?_
      rintro e w5 ⟨rfl, hw5⟩
      have hw := hw5.symm
      subst hw
      go_wp2
      go_ret
      exact ⟨rfl, hb04.alloc hb04.size _⟩

set_option maxRecDepth 100000 in
theorem proofAfter_lifted (os : Os) (started : os.Started) (H : Type) (enc : TypeId × Value → H) :
    ReturnsInHanded {} Try.checked os 6 .any (Rows.proofAfterSpec.pre6 enc Try.prog Try.f6 Rows.proofAfterRow.domain false) (Rows.proofAfterSpec.post enc Try.prog Try.f6 false true false false) := by
  refine returnsInHanded_of_change (C := Try.checked) own started (by kernel_rfl) Try.func6
    (ChangeSpec.witness6 (enc := enc) (C := Try.checked) false ⟨#[], #[.slice none 0 0, .string ⟨#[]⟩, .string ⟨#[]⟩], []⟩ 8 (by kernel_rfl) (by kernel_rfl) (by kernel_rfl) (by kernel_rfl)) ?_
  intro W base args ds gs before hval0 hW hcnd _
  have hval : ∀ (j : Nat) t v, Try.f6.params[j]? = some t → args[j]? = some v → Value.okWide Try.prog W .any base t v := hval0
  have hW' := hW
  obtain ⟨p, q, hA0, hV, rfl, hfz, hnd⟩ := hW
  have hA : DataW.TrodAll enc Try.prog W 0 (fun _ => true) true Try.f6.params.toList args.toList ds p := hA0
  rw [Try.params6] at hA hval
  obtain ⟨v0, vs0, d0, ds0, p0, q0, hargs, rfl, rfl, h0, r0⟩ := trodAll_cons hA
  obtain ⟨v1, vs1, d1, ds1, p1, q1, rfl, rfl, rfl, h1, r1⟩ := trodAll_cons r0
  obtain ⟨v2, vs2, d2, ds2, p2, q2, rfl, rfl, rfl, h2, r2⟩ := trodAll_cons r1
  obtain ⟨rfl, rfl, rfl⟩ := trodAll_nil r2
  obtain rfl : args = #[v0, v1, v2] := by cases args; simp_all
  obtain ⟨rfl, rfl⟩ := trodVars_none hV
  obtain ⟨A0, c0, s0, rfl, hm0, hr0, hs0, hc0, -⟩ := arg_ents (hval 0 22 v0 rfl rfl) h0
  obtain ⟨l1, rfl, hl1⟩ := arg_str (hval 1 9 v1 rfl rfl) h1
  obtain ⟨l2, rfl, hl2⟩ := arg_str (hval 2 9 v2 rfl rfl) h2
  refine (proofAfter_walk A0 c0 s0 l1 l2 _ hm0 hs0 hc0 hl1 hl2 hr0).mono fun e W' ⟨he, hb⟩ => ?_
  subst he
  exact ⟨_, rfl, post_law laidOut (by decide +kernel) rfl Try.underlying4 (by kernel_rfl) hW' rfl hb⟩

/-- The statement. -/
theorem proofAfter_said : Rows.ProofAfterSaid :=
  OpenClaim.holds_of_wide 6 Try.f6 rfl rfl rfl rfl rfl rfl rfl ⟨rfl, rfl, rfl, rfl, rfl⟩ rfl rfl rfl rfl rfl (by kernel_rfl) Try.func6 (by kernel_rfl)
    (of_decide_eq_true (by kernel_rfl)) (by unfold Func.isWrapper; first | (rw [if_pos (by decide +kernel)]; kernel_rfl) | (rw [if_neg (by decide +kernel)]; exact ⟨rfl, rfl⟩))
    (fun os started H enc _ => proofAfter_lifted os started H enc)
#print axioms proofAfter_said
end Go.Proofs.Ytjifggnmjhfgfaa
