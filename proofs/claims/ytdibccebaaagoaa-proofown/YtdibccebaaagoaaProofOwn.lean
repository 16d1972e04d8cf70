/- ProofOwn: package proof leaves a proof that it is given as it was. -/
import Derived.Test.YtdibccebaaagoaaProofLive
import Derived.Test.YtdibccebaaagoaaProofRoot
import Derived.Test.YtdibccebaaagoaaClone
import Derived.Test.YtdibccebaaagoaaEqEnts
import Derived.Test.YtdibccebaaagoaaArgs
import Derived.Test.YtdibccebaaagoaaLaw
namespace Go.Proofs.Ytdibccebaaagoaa
set_option maxRecDepth 100000
open Go.ChangeShapes Go.WideShapes Go.ChangeAt Go.RowKit

def SaidLen (w : World) (e : Ending) (w' : World) : Prop := ∃ D k f r, e = .returned (.tuple #[.slice D k f, .int .i64 r]) ∧ (k = 0 ∨ k = 17) ∧ Below w.heap.size w w'
theorem proofSaid_len (n : Bytes) (es : List Ent) (ss : List Nat) (A B : Option Addr) (c d : Nat) (w : World) (hn : n.length ≤ maxLen) (hm : es.length ≤ maxLen) (hes : ∀ x ∈ es, x.1.length ≤ maxLen ∧ x.2.length ≤ maxLen) (hsm : ss.length ≤ maxLen) (hA : Row w A (encells es)) (hB : Row w B (mcells ss)) :
    Calls Try.prog 12 #[.agg #[.string (S n), .slice A es.length c, .slice B ss.length d]] w (SaidLen w) := by
  by_cases h : pfault n es ss = 0
  · refine (proofSaid_yes n es ss A B c d w ((pfault_ok _ _ _).1 h) hA hB).mono ?_
    rintro e w' ⟨D, f, rfl, _, hb⟩
    exact ⟨D, _, f, _, rfl, .inr (by rw [psaid, List.length_map, List.length_range]), hb⟩
  · refine (proofSaid_no n es ss A B c d w hn hm hes hsm hA hB _ rfl h).mono ?_
    rintro e w' ⟨rfl, hb⟩
    exact ⟨_, _, _, _, rfl, .inl rfl, hb⟩

set_option maxHeartbeats 4000000 in
theorem proofOwn_walk (root : Nat) (n v : Bytes) (es : List Ent) (ss : List Nat) (A B : Option Addr) (c d : Nat) (w : World) (hn : n.length ≤ maxLen) (hm : es.length ≤ maxLen) (hes : ∀ x ∈ es, x.1.length ≤ maxLen ∧ x.2.length ≤ maxLen) (hsm : ss.length ≤ maxLen) (hme : es.length * 32 ≤ 140737488351232) (hms : ss.length * 8 ≤ 140737488351232) (hc : es.length ≤ c) (hv : v.length ≤ maxLen) (hA : Row w A (encells es)) (hB : Row w B (mcells ss)) :
    Calls Try.prog 4 #[.int .u64 (root : Int), .agg #[.string (S n), .slice A es.length c, .slice B ss.length d], .string (S v)] w fun e w' => e = .returned (.bool true) ∧ Below w.heap.size w w' := by
  have hL := fun w => Lib.hid (proofs w)
  obtain ⟨x1, b1, r1, hx1⟩ : ∃ x b r, tellAns root n es ss = (x, b, r) := ⟨_, _, _, rfl⟩
  have hT := fun (w : World) hA hB => Lib.hid (proofTell root n es ss A B c d w hn hm hes hsm hA hB x1 b1 r1 hx1)
  have hS := fun (w : World) hA hB => Lib.hid (proofSaid_len n es ss A B c d w hn hm hes hsm hA hB)
  have hF := fun (w : World) hA hB => Lib.hid (proofAfter root n es ss v A B c d w hn hm hes hsm hc hv hA hB _ _ rfl rfl)
  have hC1 := fun (w : World) hA => Lib.hid (cloneEnts A c es w hme hA)
  have hC2 := fun (w : World) hB => Lib.hid (cloneMarks B d ss w hms hB)
  have hE1 := fun (D : Option Addr) (f : Nat) (w : World) hA hD => Lib.hid (eqEnts A D c f es es w hm true (by simp) hA hD)
  have hE2 := fun (D : Option Addr) (f : Nat) (w : World) hA hD => Lib.hid (eqMarks B D d f ss ss w hsm true (by simp) hA hD)
  obtain ⟨k0, k1, k2⟩ := PBox.new w n A B es.length c ss.length d 26
  generalize afterAns root n es ss v = y at *
  generalize afterErr root n es ss v = r2 at *
  clear hx1 hn hm hes hsm hme hms hc hv
  go_enter Try.func4, Try.ntmps4
  go_wp2_with fail
  refine (hL _).out.mono ?_
  rintro e w1 ⟨rfl, hb1⟩
  have hx := (PBox.mk k0 k1 k2).below hb1
  have hb01 : Below w.heap.size w w1 := below_chain ((Below.refl _ _).alloc (Nat.le_refl _) _) hb1
  have hA1 := hA.below hb01
  have hB1 := hB.below hb01
  clear k0 k1 k2 hL hb1
  obtain ⟨q0, q1, q2⟩ := hx.below (bdrew (Below.refl _ _))
  have q3 := hA1.below (bdrew (Below.refl _ _))
  have q4 := hB1.below (bdrew (Below.refl _ _))
  have q5 : Below w1.heap.size w1 w1.drew := bdrew (Below.refl _ _)
  have hC1' : ∀ W : World, (W.cell? ⟨w.heap.size, 0, none⟩ = some (.string (S n)) ∧ W.cell? ⟨w.heap.size, 1, none⟩ = some (.slice A es.length c) ∧ W.cell? ⟨w.heap.size, 2, none⟩ = some (.slice B ss.length d) ∧ Row W A (encells es) ∧ Row W B (mcells ss) ∧ Below w1.heap.size w1 W) → Hid (Calls Try.prog 10 #[.slice A es.length c] W fun e w' => ∃ D f, e = .returned (.slice D es.length f) ∧ Row w' D (encells es) ∧ Below W.heap.size W w' ∧ w'.cell? ⟨w.heap.size, 0, none⟩ = some (.string (S n)) ∧ w'.cell? ⟨w.heap.size, 1, none⟩ = some (.slice A es.length c) ∧ w'.cell? ⟨w.heap.size, 2, none⟩ = some (.slice B ss.length d) ∧ Row w' A (encells es) ∧ Row w' B (mcells ss) ∧ Below w1.heap.size w1 w') := fun W h => by
    show Calls _ _ _ _ _
    refine (hC1 W h.2.2.2.1).out.mono ?_
    rintro e w' ⟨D, f, rfl, hD, hb⟩
    exact ⟨D, f, rfl, hD, hb, kept h.1 hb, kept h.2.1 hb, kept h.2.2.1 hb, h.2.2.2.1.below hb, h.2.2.2.2.1.below hb, below_chain h.2.2.2.2.2 hb⟩
  have hC2' : ∀ W : World, (W.cell? ⟨w.heap.size, 0, none⟩ = some (.string (S n)) ∧ W.cell? ⟨w.heap.size, 1, none⟩ = some (.slice A es.length c) ∧ W.cell? ⟨w.heap.size, 2, none⟩ = some (.slice B ss.length d) ∧ Row W A (encells es) ∧ Row W B (mcells ss) ∧ Below w1.heap.size w1 W) → Hid (Calls Try.prog 11 #[.slice B ss.length d] W fun e w' => ∃ D f, e = .returned (.slice D ss.length f) ∧ Row w' D (mcells ss) ∧ Below W.heap.size W w' ∧ w'.cell? ⟨w.heap.size, 0, none⟩ = some (.string (S n)) ∧ w'.cell? ⟨w.heap.size, 1, none⟩ = some (.slice A es.length c) ∧ w'.cell? ⟨w.heap.size, 2, none⟩ = some (.slice B ss.length d) ∧ Row w' A (encells es) ∧ Row w' B (mcells ss) ∧ Below w1.heap.size w1 w') := fun W h => by
    show Calls _ _ _ _ _
    refine (hC2 W h.2.2.2.2.1).out.mono ?_
    rintro e w' ⟨D, f, rfl, hD, hb⟩
    exact ⟨D, f, rfl, hD, hb, kept h.1 hb, kept h.2.1 hb, kept h.2.2.1 hb, h.2.2.2.1.below hb, h.2.2.2.2.1.below hb, below_chain h.2.2.2.2.2 hb⟩
  clear hC1 hC2
  go_wp2
  go_region_held3 (fun w' => w'.cell? ⟨w.heap.size, 0, none⟩ = some (.string (S n)) ∧ w'.cell? ⟨w.heap.size, 1, none⟩ = some (.slice A es.length c) ∧ w'.cell? ⟨w.heap.size, 2, none⟩ = some (.slice B ss.length d) ∧ Row w' A (encells es) ∧ Row w' B (mcells ss) ∧ Below w1.heap.size w1 w') (first | exact ⟨q0, q1, q2, q3, q4, q5⟩ | exact ⟨k0, k1, k2, k3, k4, k5⟩ | exact ⟨by assumption, by assumption, by assumption, by assumption, by assumption, by assumption⟩ | go_keep)
    (first
      | (go_at_call 10; refine (hC1' _ ?_).out.mono ?_; (first | exact ⟨by assumption, by assumption, by assumption, by assumption, by assumption, by assumption⟩); rintro e w' ⟨D, f, rfl, hD, hbD, k0, k1, k2, k3, k4, k5⟩)
      | (go_at_call 11; refine (hC2' _ ?_).out.mono ?_; (first | exact ⟨by assumption, by assumption, by assumption, by assumption, by assumption, by assumption⟩); rintro e w' ⟨E, h, rfl, hE, hbE, k0, k1, k2, k3, k4, k5⟩))
  all_goals
    have hDE : Row w' D (encells es) ∧ Row w' E (mcells ss) := by first | exact ⟨hD.below hbE, hE⟩ | exact ⟨hD, hE.below hbD⟩
    obtain ⟨hDr, hEr⟩ := hDE
    have hb02 := below_chain hb01 k5
    clear hD hE hbD hbE hC1' hC2' hA1 hB1 q0 q1 q2 q3 q4 q5 hb01 k5 hx hA hB
    go_wp2_with fail
    refine (hS _ k3 k4).out.mono ?_
    rintro e w5 ⟨J, jn, jc, jr, rfl, hj, hb5⟩
    have hb05 := below_chain hb02 hb5
    obtain ⟨p0, p1, p2⟩ := (PBox.mk k0 k1 k2).below hb5
    have hA5 := k3.below hb5
    have hB5 := k4.below hb5
    have hD5 := hDr.below hb5
    have hE5 := hEr.below hb5
    clear k0 k1 k2 k3 k4 hDr hEr hb02 hb5 hS
    go_wp2_with fail
    refine (hT _ hA5 hB5).out.mono ?_
    rintro e w6 ⟨rfl, hb6⟩
    have hb06 := below_chain hb05 hb6
    obtain ⟨k0, k1, k2⟩ := (PBox.mk p0 p1 p2).below hb6
    have hA6 := hA5.below hb6
    have hB6 := hB5.below hb6
    have hD6 := hD5.below hb6
    have hE6 := hE5.below hb6
    clear p0 p1 p2 hA5 hB5 hD5 hE5 hb05 hb6 hT
    go_wp2_with fail
    refine (hF _ hA6 hB6).out.mono ?_
    rintro e w7 ⟨rfl, hb7⟩
    have hb07 := below_chain hb06 hb7
    obtain ⟨p0, p1, p2⟩ := (PBox.mk k0 k1 k2).below hb7
    have hA7 := hA6.below hb7
    have hB7 := hB6.below hb7
    have hD7 := hD6.below hb7
    have hE7 := hE6.below hb7
    clear k0 k1 k2 hA6 hB6 hD6 hE6 hb06 hb7 hF
    go_wp2_with fail
    refine (hE1 _ _ _ hA7 hD7).out.mono ?_
    rintro e w8 ⟨rfl, m8, hw8⟩
    have hb8 : Below w7.heap.size w7 w8 := by rw [hw8]; exact below_of_drewN _ _ _
    have hb08 := below_chain hb07 hb8
    obtain ⟨k0, k1, k2⟩ := (PBox.mk p0 p1 p2).below hb8
    have hB8 := hB7.below hb8
    have hE8 := hE7.below hb8
    clear p0 p1 p2 hA7 hB7 hD7 hE7 hb07 hb8 hw8 hE1
    go_wp2_with fail
    refine (hE2 _ _ _ hB8 hE8).out.mono ?_
    rintro e w9 ⟨rfl, m9, hw9⟩
    have hb9 : Below w8.heap.size w8 w9 := by rw [hw9]; exact below_of_drewN _ _ _
    have hb09 := below_chain hb08 hb9
    clear hw9 hb9 hb08 hE2 hB8 hE8
    rcases hj with rfl | rfl
    · go_wp2
      go_ret
      exact ⟨rfl, hb09⟩
    · go_wp2
      go_ret
      exact ⟨rfl, hb09⟩

theorem len_of_bytes {a b : Nat} (hb : 8 ≤ b) (h : a * b ≤ 140737488351232) : a ≤ maxLen := by
  have : a * 8 ≤ a * b := Nat.mul_le_mul_left a hb
  unfold maxLen
  omega
set_option maxRecDepth 100000 in
theorem proofOwn_lifted (os : Os) (started : os.Started) (H : Type) (enc : TypeId × Value → H) :
    ReturnsInHanded {} Try.checked os 4 .any (Rows.proofOwnSpec.pre6 enc Try.prog Try.f4 Rows.proofOwnRow.domain false) (Rows.proofOwnSpec.post enc Try.prog Try.f4 false true false false) := by
  refine returnsInHanded_of_change_sized (C := Try.checked) own started (by kernel_rfl) Try.func4
    (ChangeSpec.witness6 (enc := enc) (C := Try.checked) false ⟨#[], #[.int .u64 0, .agg #[.string ⟨#[]⟩, .slice none 0 0, .slice none 0 0], .string ⟨#[]⟩], []⟩ 8 (by kernel_rfl) (by kernel_rfl) (by kernel_rfl) (by kernel_rfl)) ?_
  intro W base args ds gs before hval0 hW hcnd hsz _
  have hval : ∀ (j : Nat) t v, Try.f4.params[j]? = some t → args[j]? = some v → Value.okWide Try.prog W .any base t v := hval0
  have hW' := hW
  obtain ⟨p, q, hA0, hV, rfl, hfz, hnd⟩ := hW
  have hA : DataW.TrodAll enc Try.prog W 0 (fun _ => true) true Try.f4.params.toList args.toList ds p := hA0
  rw [Try.params4] at hA hval
  obtain ⟨v0, vs0, d0, ds0, p0, q0, hargs, rfl, rfl, h0, r0⟩ := trodAll_cons hA
  obtain ⟨v1, vs1, d1, ds1, p1, q1, rfl, rfl, rfl, h1, r1⟩ := trodAll_cons r0
  obtain ⟨v2, vs2, d2, ds2, p2, q2, rfl, rfl, rfl, h2, r2⟩ := trodAll_cons r1
  obtain ⟨rfl, rfl, rfl⟩ := trodAll_nil r2
  obtain rfl : args = #[v0, v1, v2] := by cases args; simp_all
  obtain ⟨rfl, rfl⟩ := trodVars_none hV
  rw [Try.params4] at hsz
  obtain ⟨n0, rfl, hn0⟩ := arg_u64 (hval 0 22 v0 rfl rfl) h0
  obtain ⟨n1, A1, c1, e1, B1, d1, s1, rfl, hn1, hm1, hr1, hs1, hc1, km1, kr1, ks1, kc1⟩ := arg_prf_sized (j := 1) hsz rfl rfl (hval 1 26 v1 rfl rfl) h1
  obtain ⟨l2, rfl, hl2⟩ := arg_str (hval 2 9 v2 rfl rfl) h2
  refine (proofOwn_walk n0 n1 l2 e1 s1 A1 B1 c1 d1 _ hn1 (len_of_bytes (by decide) hm1) hs1 (len_of_bytes (by decide) km1) hm1 km1 hc1 hl2 hr1 kr1).mono fun e W' ⟨he, hb⟩ => ?_
  subst he
  exact ⟨_, rfl, post_law laidOut (by decide +kernel) rfl Try.underlying4 (by kernel_rfl) hW' rfl hb⟩

/-- The statement. -/
theorem proofOwn_said : Rows.ProofOwnSaid :=
  OpenClaim.holds_of_wide 4 Try.f4 rfl rfl rfl rfl rfl rfl rfl ⟨rfl, rfl, rfl, rfl, rfl⟩ rfl rfl rfl rfl rfl (by kernel_rfl) Try.func4 (by kernel_rfl)
    (of_decide_eq_true (by kernel_rfl)) (by unfold Func.isWrapper; first | (rw [if_pos (by decide +kernel)]; kernel_rfl) | (rw [if_neg (by decide +kernel)]; exact ⟨rfl, rfl⟩))
    (fun os started H enc _ => proofOwn_lifted os started H enc)
#print axioms proofOwn_said
end Go.Proofs.Ytdibccebaaagoaa
