/- ProofHolds: the proof of a book tells what the book says, against the book's root. -/
import Derived.Test.YtjifggnmjhfgfaaProofLive
import Derived.Test.YtjifggnmjhfgfaaProofRoot
import Derived.Test.YtjifggnmjhfgfaaGood
import Derived.Test.YtjifggnmjhfgfaaArgs
import Derived.Test.YtjifggnmjhfgfaaLaw
namespace Go.Proofs.Ytjifggnmjhfgfaa
set_option maxRecDepth 100000
open Go.ChangeShapes Go.WideShapes Go.ChangeAt Go.RowKit

theorem good_30 (w : World) (g : Nat) (t : TypeId) (hg : g = w.heap.size) :
    Calls Try.prog 28 #[.slice (some ⟨g, 0, none⟩) 3 3] (w.alloc (.cells #[.int .i64 0, .int .i64 0, .int .i64 0] t)) fun e w' => e = .returned (.bool true) ∧ w.alloc (.cells #[.int .i64 0, .int .i64 0, .int .i64 0] t) = w' :=
  good_any (some ⟨g, 0, none⟩) 3 [0, 0, 0] _ (by simp) true rfl (Row.new w g _ _ t hg rfl)

theorem tell_make {es : List Ent} {n : Bytes} (hg : Good es) (hn : Bin.name n = true) : tellAns (prefMark es []) n (at16 es (Bin.of n)) (sidesOf es n) = ((stands es n).getD [], (stands es n).isSome, 0) := by
  rw [tellAns, if_pos ((verr_ok _ _ _ _).2 ⟨proofOf_good hg hn, proot_of es n⟩), stands_at16]

set_option maxHeartbeats 2000000 in
theorem proofHolds_walk (A : Option Addr) (c : Nat) (es : List Ent) (n : Bytes) (w : World) (hm : es.length ≤ maxLen) (hes : ∀ x ∈ es, x.1.length ≤ maxLen ∧ x.2.length ≤ maxLen) (hn : n.length ≤ maxLen) (hA : Row w A (encells es)) :
    Calls Try.prog 5 #[.slice A es.length c, .string (S n)] w fun e w' => e = .returned (.bool true) ∧ Below w.heap.size w w' := by
  have hL := fun w => Lib.hid (proofs w)
  by_cases h0 : askErr es n = 0
  · obtain ⟨hg, hnn⟩ := (askErr_ok es n).1 h0
    have hK := fun (w : World) hA => Lib.hid (proofMake_yes A c es n w hg hnn hA)
    have hT := fun (w : World) hA => Lib.hid (treeRoot_yes A c es w hg hA _ rfl)
    have hpg := proofOf_good hg hnn
    obtain ⟨hmL, hesL⟩ := small_of_good hpg.book
    have hM16 : (sidesOf es n).length ≤ maxLen := by rw [hpg.len]; unfold maxLen; omega
    have hTl := fun (D F : Option Addr) (d f : Nat) (w : World) hA hB => Lib.hid (proofTell (prefMark es []) n (at16 es (Bin.of n)) (sidesOf es n) D F d f w hn hmL hesL hM16 hA hB _ _ _ (tell_make hg hnn))
    have hG := fun (w : World) hA => Lib.hid (treeGet_yes A c es n w hg hnn hA _ rfl)
    have hR := fun (D F : Option Addr) (d f : Nat) (w : World) hA hB => Lib.hid (proofRight n (at16 es (Bin.of n)) (sidesOf es n) D F d f w hn hmL hesL hM16 hA hB 0 ((pfault_ok _ _ _).2 hpg))
    have h3 := fun w g hg => Lib.hid (good_30 w g 26 hg)
    generalize prefMark es [] = x at *
    generalize at16 es (Bin.of n) = L at *
    generalize sidesOf es n = M at *
    generalize (stands es n).getD [] = v at *
    generalize (stands es n).isSome = b at *
    clear h0 hg hnn hm hes hn hpg hmL hesL hM16
    go_enter Try.func5, Try.ntmps5
    go_wp2_with fail
    refine (hL _).out.mono ?_
    rintro e w1 ⟨rfl, hb1⟩
    go_wp2_with fail
    refine (hK _ (hA.below hb1)).out.mono ?_
    rintro e w2 ⟨D, d, F, f, rfl, hd, hD, hF, hb2⟩
    have hb02 := below_chain hb1 hb2
    have hD3 := hD.alloc (.cells #[.string (S n), .slice D L.length d, .slice F M.length f] 25)
    have hF3 := hF.alloc (.cells #[.string (S n), .slice D L.length d, .slice F M.length f] 25)
    have hb03 : Below w.heap.size w (w2.alloc (.cells #[.string (S n), .slice D L.length d, .slice F M.length f] 25)) := hb02.alloc hb02.size _
    obtain ⟨k0, k1, k2⟩ := PBox.new w2 n D F L.length d M.length f 25
    clear hK hL hb1 hb2 hb02 hd
    go_wp2_with fail
    generalize w2.alloc (.cells #[.string (S n), .slice D L.length d, .slice F M.length f] 25) = w3 at *
    refine (hT _ (hA.below hb03)).out.mono ?_
    rintro e w4 ⟨rfl, hb4⟩
    have hx4 := (PBox.mk k0 k1 k2).below hb4
    have hb04 := below_chain hb03 hb4
    have hD4 := hD3.below hb4
    have hF4 := hF3.below hb4
    clear k0 k1 k2 hT hb4 hb03 hD hF hD3 hF3
    obtain ⟨k0, k1, k2⟩ := hx4
    go_wp2_with fail
    refine (hTl D F d f _ hD4 hF4).out.mono ?_
    rintro e w5 ⟨rfl, hb5⟩
    have hx5 := (PBox.mk k0 k1 k2).below hb5
    have hb05 := below_chain hb04 hb5
    have hD5 := hD4.below hb5
    have hF5 := hF4.below hb5
    clear k0 k1 k2 hTl hb5 hb04 hD4 hF4
    obtain ⟨k0, k1, k2⟩ := hx5
    go_wp2_with fail
    refine (hG _ (hA.below hb05)).out.mono ?_
    rintro e w6 ⟨rfl, hb6⟩
    have hx6 := ((PBox.mk k0 k1 k2).below hb6).alloc (.cells #[.int .i64 0, .int .i64 0, .int .i64 0] 26)
    have hb06 := below_chain hb05 hb6
    have hD6 := (hD5.below hb6).alloc (.cells #[.int .i64 0, .int .i64 0, .int .i64 0] 26)
    have hF6 := (hF5.below hb6).alloc (.cells #[.int .i64 0, .int .i64 0, .int .i64 0] 26)
    have hb07 : Below w.heap.size w (w6.alloc (.cells #[.int .i64 0, .int .i64 0, .int .i64 0] 26)) := hb06.alloc hb06.size _
    clear k0 k1 k2 hG hb6 hb05 hD5 hF5
    obtain ⟨k0, k1, k2⟩ := hx6
    go_wp2_with fail
    refine (h3 _ _ rfl).out.mono ?_
    rintro e w7 ⟨rfl, hw7⟩
    have hw := hw7.symm
    subst hw
    go_wp2_with fail
    refine (hR D F d f _ hD6 hF6).out.mono ?_
    rintro e w8 ⟨rfl, hb8⟩
    go_wp2
    go_ret
    exact ⟨by simp, below_chain hb07 hb8⟩
  · have hK := fun (w : World) hA => Lib.hid (proofMake_no A c es n w hm hes hn hA _ rfl h0)
    have c1 : (askErr es n == 0) = false := beq_eq_false_iff_ne.2 h0
    generalize askErr es n = r at *
    clear h0 hm hes hn
    go_enter Try.func5, Try.ntmps5
    go_wp2_with fail
    refine (hL _).out.mono ?_
    rintro e w1 ⟨rfl, hb1⟩
    go_wp2_with fail
    refine (hK _ (hA.below hb1)).out.mono ?_
    rintro e w2 ⟨rfl, hb2⟩
    have hb02 := below_chain hb1 hb2
    go_wp2
    go_ret
    exact ⟨rfl, hb02.alloc hb02.size _⟩

set_option maxRecDepth 100000 in
theorem proofHolds_lifted (os : Os) (started : os.Started) (H : Type) (enc : TypeId × Value → H) :
    ReturnsInHanded {} Try.checked os 5 .any (Rows.proofHoldsSpec.pre6 enc Try.prog Try.f5 Rows.proofHoldsRow.domain false) (Rows.proofHoldsSpec.post enc Try.prog Try.f5 false true false false) := by
  refine returnsInHanded_of_change (C := Try.checked) own started (by kernel_rfl) Try.func5
    (ChangeSpec.witness6 (enc := enc) (C := Try.checked) false ⟨#[], #[.slice none 0 0, .string ⟨#[]⟩], []⟩ 8 (by kernel_rfl) (by kernel_rfl) (by kernel_rfl) (by kernel_rfl)) ?_
  intro W base args ds gs before hval0 hW hcnd _
  have hval : ∀ (j : Nat) t v, Try.f5.params[j]? = some t → args[j]? = some v → Value.okWide Try.prog W .any base t v := hval0
  have hW' := hW
  obtain ⟨p, q, hA0, hV, rfl, hfz, hnd⟩ := hW
  have hA : DataW.TrodAll enc Try.prog W 0 (fun _ => true) true Try.f5.params.toList args.toList ds p := hA0
  rw [Try.params5] at hA hval
  obtain ⟨v0, vs0, d0, ds0, p0, q0, hargs, rfl, rfl, h0, r0⟩ := trodAll_cons hA
  obtain ⟨v1, vs1, d1, ds1, p1, q1, rfl, rfl, rfl, h1, r1⟩ := trodAll_cons r0
  obtain ⟨rfl, rfl, rfl⟩ := trodAll_nil r1
  obtain rfl : args = #[v0, v1] := by cases args; simp_all
  obtain ⟨rfl, rfl⟩ := trodVars_none hV
  obtain ⟨A0, c0, s0, rfl, hm0, hr0, hs0, hc0, -⟩ := arg_ents (hval 0 22 v0 rfl rfl) h0
  obtain ⟨l1, rfl, hl1⟩ := arg_str (hval 1 9 v1 rfl rfl) h1
  refine (proofHolds_walk A0 c0 s0 l1 _ hm0 hs0 hl1 hr0).mono fun e W' ⟨he, hb⟩ => ?_
  subst he
  exact ⟨_, rfl, post_law laidOut (by decide +kernel) rfl Try.underlying4 (by kernel_rfl) hW' rfl hb⟩

/-- The statement. -/
theorem proofHolds_said : Rows.ProofHoldsSaid :=
  OpenClaim.holds_of_wide 5 Try.f5 rfl rfl rfl rfl rfl rfl rfl ⟨rfl, rfl, rfl, rfl, rfl⟩ rfl rfl rfl rfl rfl (by kernel_rfl) Try.func5 (by kernel_rfl)
    (of_decide_eq_true (by kernel_rfl)) (by unfold Func.isWrapper; first | (rw [if_pos (by decide +kernel)]; kernel_rfl) | (rw [if_neg (by decide +kernel)]; exact ⟨rfl, rfl⟩))
    (fun os started H enc _ => proofHolds_lifted os started H enc)
#print axioms proofHolds_said
end Go.Proofs.Ytjifggnmjhfgfaa
