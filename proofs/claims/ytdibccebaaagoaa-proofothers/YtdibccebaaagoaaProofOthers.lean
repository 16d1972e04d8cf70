/- ProofOthers: a proof tells as much of every name that has the same path. -/
import Derived.Test.YtdibccebaaagoaaProofHolds
import Derived.Test.YtdibccebaaagoaaArgs
namespace Go.Proofs.Ytdibccebaaagoaa
set_option maxRecDepth 100000
open Go.ChangeShapes Go.WideShapes Go.ChangeAt Go.RowKit

theorem good_2o (a b : Int) (w : World) (g : Nat) (t : TypeId) (hg : g = w.heap.size) (r : Bool) (hr : allOk [a, b] = r) :
    Calls Try.prog 8 #[.slice (some ⟨g, 0, none⟩) 2 2] (w.alloc (.cells #[.int .i64 a, .int .i64 b] t)) fun e w' => e = .returned (.bool r) ∧ w.alloc (.cells #[.int .i64 a, .int .i64 b] t) = w' :=
  good_any (some ⟨g, 0, none⟩) 2 [a, b] _ (by simp) r hr (Row.new w g _ _ t hg rfl)

theorem sameWay_path {a b : Bytes} (h : Bin.of a = Bin.of b) (es : List Ent) : sameWay a es = sameWay b es := by unfold sameWay; rw [h]
theorem tell_path {root : Nat} {m n : Bytes} {es : List Ent} {ss : List Nat} (h : verr root n es ss = 0) (hm : Bin.name m = true) (hp : Bin.of m = Bin.of n) : tellAns root m es ss = ((stands es m).getD [], (stands es m).isSome, 0) := by
  obtain ⟨hg, hr⟩ := (verr_ok _ _ _ _).1 h
  have h' : verr root m es ss = 0 := (verr_ok _ _ _ _).2 ⟨⟨hm, hg.book, by rw [sameWay_path hp]; exact hg.way, hg.len, hg.low⟩, by rw [proot_path hp]; exact hr⟩
  rw [tellAns, if_pos h']

set_option maxHeartbeats 2000000 in
theorem proofOthers_walk (root : Nat) (n m : Bytes) (es : List Ent) (ss : List Nat) (A B : Option Addr) (c d : Nat) (w : World) (hn : n.length ≤ maxLen) (hm : es.length ≤ maxLen) (hes : ∀ x ∈ es, x.1.length ≤ maxLen ∧ x.2.length ≤ maxLen) (hsm : ss.length ≤ maxLen) (hml : m.length ≤ maxLen) (hA : Row w A (encells es)) (hB : Row w B (mcells ss)) :
    Calls Try.prog 3 #[.int .u64 (root : Int), .agg #[.string (S n), .slice A es.length c, .slice B ss.length d], .string (S m)] w fun e w' => e = .returned (.bool true) ∧ Below w.heap.size w w' := by
  have hL := fun w => Lib.hid (proofs w)
  obtain ⟨x1, b1, r1, hx1⟩ : ∃ x b r, tellAns root n es ss = (x, b, r) := ⟨_, _, _, rfl⟩
  have hT := fun (w : World) hA hB => Lib.hid (proofTell root n es ss A B c d w hn hm hes hsm hA hB x1 b1 r1 hx1)
  obtain ⟨k0, k1, k2⟩ := PBox.new w n A B es.length c ss.length d 26
  by_cases h0 : verr root n es ss = 0
  · obtain rfl : r1 = 0 := by
      rw [tellAns, if_pos h0] at hx1
      injection hx1 with _ h2
      injection h2 with _ h3
      exact h3.symm
    obtain ⟨hg, _⟩ := (verr_ok _ _ _ _).1 h0
    have hPn := fun w => Lib.hid (pathOf_yes n w hg.name)
    cases hmm : Bin.name m with
    | false =>
      have hPm := fun w => Lib.hid (pathOf_no m w hml hmm)
      have h2 := fun w g hg => Lib.hid (good_2o 3 0 w g 28 hg false rfl)
      generalize Bin.of n = pn at *
      clear hx1 h0 hg hmm hn hm hes hsm hml
      go_enter Try.func3, Try.ntmps3
      go_wp2_with fail
      refine (hL _).out.mono ?_
      rintro e w1 ⟨rfl, hb1⟩
      have hx := (PBox.mk k0 k1 k2).below hb1
      have hb01 : Below w.heap.size w w1 := below_chain ((Below.refl _ _).alloc (Nat.le_refl _) _) hb1
      clear k0 k1 k2
      obtain ⟨k0, k1, k2⟩ := hx
      go_wp2_with fail
      refine (hT _ (hA.below hb01) (hB.below hb01)).out.mono ?_
      rintro e w2 ⟨rfl, hb2⟩
      have hx := (PBox.mk k0 k1 k2).below hb2
      have hb02 := below_chain hb01 hb2
      clear k0 k1 k2
      obtain ⟨k0, k1, k2⟩ := hx
      go_wp2_with fail
      refine (hPm _).out.mono ?_
      rintro e w3 ⟨rfl, hw3⟩
      have hw := hw3.symm
      subst hw
      go_wp2_with fail
      refine (hPn _).out.mono ?_
      rintro e w4 ⟨rfl, hb4⟩
      have hb04 := below_chain hb02 hb4
      go_wp2_with fail
      refine (h2 _ _ rfl).out.mono ?_
      rintro e w5 ⟨rfl, hw5⟩
      have hw := hw5.symm
      subst hw
      go_wp2
      go_ret
      exact ⟨rfl, hb04.alloc hb04.size _⟩
    | true =>
      have hPm := fun w => Lib.hid (pathOf_yes m w hmm)
      have h2 := fun w g hg => Lib.hid (good_2o 0 0 w g 28 hg true rfl)
      by_cases hp : Bin.of m = Bin.of n
      · have hT2 := fun (w : World) hA hB => Lib.hid (proofTell root m es ss A B c d w hml hm hes hsm hA hB _ _ _ (tell_path h0 hmm hp))
        have hG := fun (w : World) hA => Lib.hid (treeGet_yes A c es m w hg.book hmm hA _ rfl)
        have c1 : (Bin.of m == Bin.of n) = true := beq_iff_eq.2 hp
        generalize (stands es m).getD [] = y at *
        generalize (stands es m).isSome = b at *
        generalize Bin.of n = pn at *
        generalize Bin.of m = pm at *
        clear hx1 h0 hg hmm hn hm hes hsm hml hp
        go_enter Try.func3, Try.ntmps3
        go_wp2_with fail
        refine (hL _).out.mono ?_
        rintro e w1 ⟨rfl, hb1⟩
        have hx := (PBox.mk k0 k1 k2).below hb1
        have hb01 : Below w.heap.size w w1 := below_chain ((Below.refl _ _).alloc (Nat.le_refl _) _) hb1
        clear k0 k1 k2
        obtain ⟨k0, k1, k2⟩ := hx
        go_wp2_with fail
        refine (hT _ (hA.below hb01) (hB.below hb01)).out.mono ?_
        rintro e w2 ⟨rfl, hb2⟩
        have hx := (PBox.mk k0 k1 k2).below hb2
        have hb02 := below_chain hb01 hb2
        clear k0 k1 k2
        obtain ⟨k0, k1, k2⟩ := hx
        go_wp2_with fail
        refine (hPm _).out.mono ?_
        rintro e w3 ⟨rfl, hb3⟩
        have hx := (PBox.mk k0 k1 k2).below hb3
        have hb03 := below_chain hb02 hb3
        clear k0 k1 k2
        obtain ⟨k0, k1, k2⟩ := hx
        go_wp2_with fail
        refine (hPn _).out.mono ?_
        rintro e w4 ⟨rfl, hb4⟩
        have hx := ((PBox.mk k0 k1 k2).below hb4).alloc (.cells #[.int .i64 0, .int .i64 0] 28)
        have hb040 := below_chain hb03 hb4
        have hb04 : Below w.heap.size w (w4.alloc (.cells #[.int .i64 0, .int .i64 0] 28)) := hb040.alloc hb040.size _
        clear k0 k1 k2 hT hPm hPn hL hb1 hb2 hb3 hb4 hb01 hb02 hb03 hb040
        obtain ⟨k0, k1, k2⟩ := hx
        go_wp2_with fail
        refine (h2 _ _ rfl).out.mono ?_
        rintro e w5 ⟨rfl, hw5⟩
        rw [hw5] at k0 k1 k2 hb04
        clear hw5
        have hA6 := (hA.below hb04).alloc (.cells #[.string (S m), .slice A es.length c, .slice B ss.length d] 26)
        have hB6 := (hB.below hb04).alloc (.cells #[.string (S m), .slice A es.length c, .slice B ss.length d] 26)
        have hx6 := (PBox.mk k0 k1 k2).alloc (.cells #[.string (S m), .slice A es.length c, .slice B ss.length d] 26)
        have hb06 : Below w.heap.size w (w5.alloc (.cells #[.string (S m), .slice A es.length c, .slice B ss.length d] 26)) := hb04.alloc hb04.size _
        go_wp2_with fail
        generalize w5.alloc (.cells #[.string (S m), .slice A es.length c, .slice B ss.length d] 26) = w6 at *
        refine (hT2 _ hA6 hB6).out.mono ?_
        rintro e w7 ⟨rfl, hb7⟩
        have hb07 := below_chain hb06 hb7
        have hx7 := hx6.below hb7
        clear k0 k1 k2 hT2 hb7 hb06 hA6 hB6 hx6 hb04
        obtain ⟨k0, k1, k2⟩ := hx7
        go_wp2_with fail
        refine (hG _ (hA.below hb07)).out.mono ?_
        rintro e w8 ⟨rfl, hb8⟩
        have hb08 := below_chain hb07 hb8
        go_wp2_with fail
        refine (h2 _ _ rfl).out.mono ?_
        rintro e w9 ⟨rfl, hw9⟩
        have hw := hw9.symm
        subst hw
        go_wp2
        go_ret
        exact ⟨by simp, hb08.alloc hb08.size _⟩
      · have c1 : (Bin.of m == Bin.of n) = false := beq_eq_false_iff_ne.2 hp
        generalize Bin.of n = pn at *
        generalize Bin.of m = pm at *
        clear hx1 h0 hg hmm hn hm hes hsm hml hp
        go_enter Try.func3, Try.ntmps3
        go_wp2_with fail
        refine (hL _).out.mono ?_
        rintro e w1 ⟨rfl, hb1⟩
        have hx := (PBox.mk k0 k1 k2).below hb1
        have hb01 : Below w.heap.size w w1 := below_chain ((Below.refl _ _).alloc (Nat.le_refl _) _) hb1
        clear k0 k1 k2
        obtain ⟨k0, k1, k2⟩ := hx
        go_wp2_with fail
        refine (hT _ (hA.below hb01) (hB.below hb01)).out.mono ?_
        rintro e w2 ⟨rfl, hb2⟩
        have hx := (PBox.mk k0 k1 k2).below hb2
        have hb02 := below_chain hb01 hb2
        clear k0 k1 k2
        obtain ⟨k0, k1, k2⟩ := hx
        go_wp2_with fail
        refine (hPm _).out.mono ?_
        rintro e w3 ⟨rfl, hb3⟩
        have hx := (PBox.mk k0 k1 k2).below hb3
        have hb03 := below_chain hb02 hb3
        clear k0 k1 k2
        obtain ⟨k0, k1, k2⟩ := hx
        go_wp2_with fail
        refine (hPn _).out.mono ?_
        rintro e w4 ⟨rfl, hb4⟩
        have hb04 := below_chain hb03 hb4
        go_wp2_with fail
        refine (h2 _ _ rfl).out.mono ?_
        rintro e w5 ⟨rfl, hw5⟩
        have hw := hw5.symm
        subst hw
        go_wp2
        go_ret
        exact ⟨rfl, hb04.alloc hb04.size _⟩
  · have c1 : (r1 == 0) = false := by
      rw [tellAns, if_neg h0] at hx1
      injection hx1 with _ h2
      injection h2 with _ h3
      rw [← h3]
      exact beq_eq_false_iff_ne.2 h0
    clear hx1 h0 hn hm hes hsm hml
    go_enter Try.func3, Try.ntmps3
    go_wp2_with fail
    refine (hL _).out.mono ?_
    rintro e w1 ⟨rfl, hb1⟩
    have hx := (PBox.mk k0 k1 k2).below hb1
    have hb01 : Below w.heap.size w w1 := below_chain ((Below.refl _ _).alloc (Nat.le_refl _) _) hb1
    clear k0 k1 k2
    obtain ⟨k0, k1, k2⟩ := hx
    go_wp2_with fail
    refine (hT _ (hA.below hb01) (hB.below hb01)).out.mono ?_
    rintro e w2 ⟨rfl, hb2⟩
    go_wp2
    go_ret
    exact ⟨rfl, below_chain hb01 hb2⟩

set_option maxRecDepth 100000 in
theorem proofOthers_lifted (os : Os) (started : os.Started) (H : Type) (enc : TypeId × Value → H) :
    ReturnsInHanded {} Try.checked os 3 .any (Rows.proofOthersSpec.pre6 enc Try.prog Try.f3 Rows.proofOthersRow.domain false) (Rows.proofOthersSpec.post enc Try.prog Try.f3 false true false false) := by
  refine returnsInHanded_of_change (C := Try.checked) own started (by kernel_rfl) Try.func3
    (ChangeSpec.witness6 (enc := enc) (C := Try.checked) false ⟨#[], #[.int .u64 0, .agg #[.string ⟨#[]⟩, .slice none 0 0, .slice none 0 0], .string ⟨#[]⟩], []⟩ 8 (by kernel_rfl) (by kernel_rfl) (by kernel_rfl) (by kernel_rfl)) ?_
  intro W base args ds gs before hval0 hW hcnd _
  have hval : ∀ (j : Nat) t v, Try.f3.params[j]? = some t → args[j]? = some v → Value.okWide Try.prog W .any base t v := hval0
  have hW' := hW
  obtain ⟨p, q, hA0, hV, rfl, hfz, hnd⟩ := hW
  have hA : DataW.TrodAll enc Try.prog W 0 (fun _ => true) true Try.f3.params.toList args.toList ds p := hA0
  rw [Try.params3] at hA hval
  obtain ⟨v0, vs0, d0, ds0, p0, q0, hargs, rfl, rfl, h0, r0⟩ := trodAll_cons hA
  obtain ⟨v1, vs1, d1, ds1, p1, q1, rfl, rfl, rfl, h1, r1⟩ := trodAll_cons r0
  obtain ⟨v2, vs2, d2, ds2, p2, q2, rfl, rfl, rfl, h2, r2⟩ := trodAll_cons r1
  obtain ⟨rfl, rfl, rfl⟩ := trodAll_nil r2
  obtain rfl : args = #[v0, v1, v2] := by cases args; simp_all
  obtain ⟨rfl, rfl⟩ := trodVars_none hV
  obtain ⟨n0, rfl, hn0⟩ := arg_u64 (hval 0 22 v0 rfl rfl) h0
  obtain ⟨n1, A1, c1, e1, B1, d1, s1, rfl, hn1, hm1, hr1, hs1, hc1, km1, kr1, ks1, kc1⟩ := arg_prf (hval 1 26 v1 rfl rfl) h1
  obtain ⟨l2, rfl, hl2⟩ := arg_str (hval 2 9 v2 rfl rfl) h2
  refine (proofOthers_walk n0 n1 l2 e1 s1 A1 B1 c1 d1 _ hn1 hm1 hs1 km1 hl2 hr1 kr1).mono fun e W' ⟨he, hb⟩ => ?_
  subst he
  exact ⟨_, rfl, post_law laidOut (by decide +kernel) rfl Try.underlying4 (by kernel_rfl) hW' rfl hb⟩

/-- The statement. -/
theorem proofOthers_said : Rows.ProofOthersSaid :=
  OpenClaim.holds_of_wide 3 Try.f3 rfl rfl rfl rfl rfl rfl rfl ⟨rfl, rfl, rfl, rfl, rfl⟩ rfl rfl rfl rfl rfl (by kernel_rfl) Try.func3 (by kernel_rfl)
    (of_decide_eq_true (by kernel_rfl)) (by unfold Func.isWrapper; first | (rw [if_pos (by decide +kernel)]; kernel_rfl) | (rw [if_neg (by decide +kernel)]; exact ⟨rfl, rfl⟩))
    (fun os started H enc _ => proofOthers_lifted os started H enc)
#print axioms proofOthers_said
end Go.Proofs.Ytdibccebaaagoaa
