/- TreeParts: the hash of a prefix is determined by the hashes of its two extensions. -/
import Derived.Test.YthccpicnllmikaaTreeLive
import Derived.Test.YthccpicnllmikaaTreeAt
import Derived.Test.YthccpicnllmikaaTreeLeafs
import Derived.Test.YthccpicnllmikaaGood
import Derived.Test.YthccpicnllmikaaArgs
import Derived.Test.YthccpicnllmikaaLaw
namespace Go.Proofs.Ythccpicnllmikaa
open Go.ChangeShapes Go.WideShapes Go.ChangeAt Go.RowKit

theorem goodPre_snoc {q : Bytes} (h : goodPre q = true) (hl : q.length < 16) : goodPre (q ++ [48]) = true ∧ goodPre (q ++ [49]) = true := by
  unfold goodPre at h ⊢
  rw [Bool.and_eq_true] at h
  rw [List.all_append, List.all_append, h.1, List.length_append, List.length_append, List.length_singleton, List.length_singleton, decide_eq_true (by omega)]
  exact ⟨by decide, by decide⟩

theorem good_0s (w : World) (g : Nat) (t : TypeId) (hg : g = w.heap.size) :
    Calls Try.prog 27 #[.slice (some ⟨g, 0, none⟩) 3 3] (w.alloc (.cells #[.int .i64 0, .int .i64 0, .int .i64 0] t)) fun e w' => e = .returned (.bool true) ∧ Below (w.alloc (.cells #[.int .i64 0, .int .i64 0, .int .i64 0] t)).heap.size (w.alloc (.cells #[.int .i64 0, .int .i64 0, .int .i64 0] t)) w' :=
  (good_any (some ⟨g, 0, none⟩) 3 [0, 0, 0] _ (by simp) true rfl (Row.new w g _ _ t hg rfl)).mono fun e w' h => ⟨h.1, by rw [← h.2]; exact Below.refl _ _⟩

set_option maxRecDepth 100000 in
set_option maxHeartbeats 1000000 in
theorem treeParts_walk (A : Option Addr) (c : Nat) (es : List Ent) (q : Bytes) (w : World) (hm : es.length ≤ maxLen) (hes : ∀ x ∈ es, x.1.length ≤ maxLen ∧ x.2.length ≤ maxLen) (hq : q.length ≤ maxLen) (hA : Row w A (encells es)) :
    Calls Try.prog 8 #[.slice A es.length c, .string (S q)] w fun e w' => e = .returned (.bool true) ∧ Below w.heap.size w w' := by
  have hL := fun w => Lib.hid (trees w)
  by_cases h0 : atErr es q = 0
  · obtain ⟨hg, hgq⟩ := (atErr_ok es q).1 h0
    have h16 := goodPre_len hgq
    have hT := fun (w : World) hA => Lib.hid (treeAt_yes A c es q w hg hgq hA _ rfl)
    by_cases hlt : q.length < 16
    · obtain ⟨g0, g1⟩ := goodPre_snoc hgq hlt
      have hT0 := fun (w : World) hA => Lib.hid (treeAt_yes A c es (q ++ [48]) w hg g0 hA _ rfl)
      have hT1 := fun (w : World) hA => Lib.hid (treeAt_yes A c es (q ++ [49]) w hg g1 hA _ rfl)
      have hN := fun w => Lib.hid (treeLeaf_nil none 0 w)
      have hG := fun w g t hg => Lib.hid (good_0s w g t hg)
      have hM := fun w => Lib.hid (markOf [0] w (by show _ ≤ (2 : Nat) ^ 63 - 1; simp))
      have hnode := prefMark_node es q hlt
      have hla : prefMark es (q ++ [48]) < 18446744073709551616 := Nat.lt_trans (pm_lt _ _ _) (by decide)
      have hlb : prefMark es (q ++ [49]) < 18446744073709551616 := Nat.lt_trans (pm_lt _ _ _) (by decide)
      have hW := fun w => Lib.hid (markTwo2 _ _ w hla hlb)
      generalize prefMark es q = x at *
      generalize prefMark es (q ++ [48]) = a at *
      generalize prefMark es (q ++ [49]) = b at *
      have hab : (((a : Int) == (nil0 : Int)) = true ∧ ((b : Int) == (nil0 : Int)) = true ∧ x = nil0) ∨ (((a : Int) == (nil0 : Int)) = true ∧ ((b : Int) == (nil0 : Int)) = false ∧ x = Hash.of (said 2 a b)) ∨ (((a : Int) == (nil0 : Int)) = false ∧ x = Hash.of (said 2 a b)) := by
        rw [nodeOf] at hnode
        by_cases h1 : a = nil0
        · by_cases h2 : b = nil0
          · rw [if_pos ⟨h1, h2⟩] at hnode
            exact .inl ⟨beq_iff_eq.2 (by rw [h1]), beq_iff_eq.2 (by rw [h2]), hnode⟩
          · rw [if_neg (fun h => h2 h.2)] at hnode
            exact .inr (.inl ⟨beq_iff_eq.2 (by rw [h1]), beq_eq_false_iff_ne.2 (by omega), hnode⟩)
        · rw [if_neg (fun h => h1 h.1)] at hnode
          exact .inr (.inr ⟨beq_eq_false_iff_ne.2 (by omega), hnode⟩)
      have hM' : ∀ w, Hid (Calls Try.prog 28 #[.string (S [0])] w fun e w' => e = .returned (.int .u64 (nil0 : Int)) ∧ ∃ m, w' = w.drewN m) := fun w => (hM w).out
      generalize nil0 = z at *
      generalize Hash.of (said 2 a b) = y at *
      have c16 : decide ((16 : Int) ≤ (q.length : Int)) = false := decide_eq_false (by omega)
      clear hM hnode hla hlb g0 g1 hg hgq h0 hm hes hq
      rcases hab with ⟨h1, h2, rfl⟩ | ⟨h1, h2, rfl⟩ | ⟨h1, rfl⟩ <;>
      · go_enter Try.func8, Try.ntmps8
        go_wp2_with fail
        refine (hL _).out.mono ?_
        rintro e w1 ⟨rfl, hb1⟩
        go_wp2_with fail
        refine (hT _ (hA.below hb1)).out.mono ?_
        rintro e w2 ⟨rfl, hb2⟩
        have hb02 := below_chain hb1 hb2
        go_wp2_with fail
        refine (hT0 _ (hA.below hb02)).out.mono ?_
        rintro e w3 ⟨rfl, hb3⟩
        have hb03 := below_chain hb02 hb3
        go_wp2_with fail
        refine (hT1 _ (hA.below hb03)).out.mono ?_
        rintro e w4 ⟨rfl, hb4⟩
        have hb04 := below_chain hb03 hb4
        go_wp2_with fail
        refine (hN _).out.mono ?_
        rintro e w5 ⟨rfl, hb5⟩
        have hb05 := below_chain hb04 hb5
        go_wp2_with fail
        refine (hG _ _ _ rfl).out.mono ?_
        rintro e w6 ⟨rfl, hb6⟩
        have hb06 := below_chain (balloc hb05 _) hb6
        go_wp2_with fail
        refine (hM' _).out.mono ?_
        rintro e w7 ⟨rfl, m7, rfl⟩
        first
        | (go_wp2_with fail
           refine (hW _).out.mono ?_
           rintro e w8 ⟨rfl, hb8⟩
           go_wp2
           go_ret
           exact ⟨rfl, below_chain (below_drewN hb06 _) hb8⟩)
        | (go_wp2
           go_ret
           exact ⟨rfl, below_drewN hb06 _⟩)
    · have c16 : decide ((16 : Int) ≤ (q.length : Int)) = true := decide_eq_true (by omega)
      generalize prefMark es q = x at *
      clear hg hgq h0 hm hes hq
      go_enter Try.func8, Try.ntmps8
      go_wp2_with fail
      refine (hL _).out.mono ?_
      rintro e w1 ⟨rfl, hb1⟩
      go_wp2_with fail
      refine (hT _ (hA.below hb1)).out.mono ?_
      rintro e w2 ⟨rfl, hb2⟩
      have hb02 := below_chain hb1 hb2
      go_wp2
      go_ret
      exact ⟨rfl, hb02⟩
  · have hT := fun (w : World) hA => Lib.hid (treeAt_no A c es q w hm hes hq hA _ rfl h0)
    have c1 : (atErr es q == 0) = false := beq_eq_false_iff_ne.2 h0
    have c2 : (atErr es q != 0) = true := by rw [bne, c1]; rfl
    generalize atErr es q = r at *
    clear h0 hm hes hq
    go_enter Try.func8, Try.ntmps8
    go_wp2_with fail
    refine (hL _).out.mono ?_
    rintro e w1 ⟨rfl, hb1⟩
    go_wp2_with fail
    refine (hT _ (hA.below hb1)).out.mono ?_
    rintro e w2 ⟨rfl, hb2⟩
    have hb02 := below_chain hb1 hb2
    go_wp2
    go_ret
    exact ⟨rfl, hb02⟩

set_option maxRecDepth 100000 in
theorem treeParts_lifted (os : Os) (started : os.Started) (H : Type) (enc : TypeId × Value → H) :
    ReturnsInHanded {} Try.checked os 8 .any (Rows.treePartsSpec.pre6 enc Try.prog Try.f8 Rows.treePartsRow.domain false) (Rows.treePartsSpec.post enc Try.prog Try.f8 false true false false) := by
  refine returnsInHanded_of_change (C := Try.checked) own started (by kernel_rfl) Try.func8
    (ChangeSpec.witness6 (enc := enc) (C := Try.checked) false ⟨#[], #[.slice none 0 0, .string ⟨#[]⟩], []⟩ 8 (by kernel_rfl) (by kernel_rfl) (by kernel_rfl) (by kernel_rfl)) ?_
  intro W base args ds gs before hval0 hW hcnd _
  have hval : ∀ (j : Nat) t v, Try.f8.params[j]? = some t → args[j]? = some v → Value.okWide Try.prog W .any base t v := hval0
  have hW' := hW
  obtain ⟨p, q, hA0, hV, rfl, hfz, hnd⟩ := hW
  have hA : DataW.TrodAll enc Try.prog W 0 (fun _ => true) true Try.f8.params.toList args.toList ds p := hA0
  rw [Try.params8] at hA hval
  obtain ⟨v0, vs0, d0, ds0, p0, q0, hargs, rfl, rfl, h0, r0⟩ := trodAll_cons hA
  obtain ⟨v1, vs1, d1, ds1, p1, q1, rfl, rfl, rfl, h1, r1⟩ := trodAll_cons r0
  obtain ⟨rfl, rfl, rfl⟩ := trodAll_nil r1
  obtain rfl : args = #[v0, v1] := by cases args; simp_all
  obtain ⟨rfl, rfl⟩ := trodVars_none hV
  obtain ⟨A0, c0, s0, rfl, hm0, hr0, hs0, hc0, -⟩ := arg_ents (hval 0 22 v0 rfl rfl) h0
  obtain ⟨l1, rfl, hl1⟩ := arg_str (hval 1 9 v1 rfl rfl) h1
  refine (treeParts_walk A0 c0 s0 l1 W hm0 hs0 hl1 hr0).mono fun e W' ⟨he, hb⟩ => ?_
  subst he
  exact ⟨_, rfl, post_law laidOut (by decide +kernel) rfl Try.underlying4 (by kernel_rfl) hW' rfl hb⟩

/-- The statement. -/
theorem treeParts_said : Rows.TreePartsSaid :=
  OpenClaim.holds_of_wide 8 Try.f8 rfl rfl rfl rfl rfl rfl rfl ⟨rfl, rfl, rfl, rfl, rfl⟩ rfl rfl rfl rfl rfl (by kernel_rfl) Try.func8 (by kernel_rfl)
    (of_decide_eq_true (by kernel_rfl)) (by unfold Func.isWrapper; first | (rw [if_pos (by decide +kernel)]; kernel_rfl) | (rw [if_neg (by decide +kernel)]; exact ⟨rfl, rfl⟩))
    (fun os started H enc _ => treeParts_lifted os started H enc)
#print axioms treeParts_said
end Go.Proofs.Ythccpicnllmikaa
