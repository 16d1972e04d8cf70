/- ClashIs: what is returned as a collision is one, and with an error nothing is returned. -/
import Derived.Test.YteclnibbgdbjfaaClashProofs
import Derived.Test.YteclnibbgdbjfaaArgs
import Derived.Test.YteclnibbgdbjfaaLaw
namespace Go.Proofs.Yteclnibbgdbjfaa
set_option maxRecDepth 100000
open Go.ChangeShapes Go.WideShapes Go.ChangeAt Go.RowKit

/-- A collision that is one, or an error and nothing. -/
def isClash (s t : Bytes) (r : Int) : Prop := s.length ≤ maxLen ∧ t.length ≤ maxLen ∧ (r = 0 ∧ alikeB s t = true ∨ r ≠ 0 ∧ s = [] ∧ t = [])

theorem clashOf_is {a b : List Bytes} (ha : ∀ s ∈ a, s.length ≤ maxLen) (hb : ∀ s ∈ b, s.length ≤ maxLen) {x y : Bytes} {r : Int} (h : clashOf a b = (x, y, r)) : isClash x y r := by
  have h1 := clashOf_alike a b
  have h2 := clashOf_no a b
  have h3 := clashOf_small ha hb
  rw [h] at h1 h2 h3
  refine ⟨h3.1, h3.2, ?_⟩
  by_cases h0 : r = 0
  · exact .inl ⟨h0, (alikeB_iff _ _).2 (h1 h0)⟩
  · exact .inr ⟨h0, h2 h0⟩
theorem proofsAns_is {n n' : Bytes} {es es' : List Ent} {ss ss' : List Nat} {x y : Bytes} {r : Int} (h : proofsAns n es ss n' es' ss' = (x, y, r)) : isClash x y r := by
  have hno : ∀ {x y : Bytes} {r k : Int}, k ≠ 0 → (([], [], k) : Bytes × Bytes × Int) = (x, y, r) → isClash x y r := fun hk e => by
    injection e with e1 e2
    injection e2 with e2 e3
    subst e1; subst e2; subst e3
    exact ⟨by simp, by simp, .inr ⟨hk, rfl, rfl⟩⟩
  unfold proofsAns at h
  by_cases h0 : pfault n es ss = 0
  · rw [if_pos h0] at h
    by_cases h1 : pfault n' es' ss' = 0
    · rw [if_pos h1] at h
      by_cases h2 : n = n'
      · rw [if_pos h2] at h
        exact clashOf_is (psaid_small ((pfault_ok _ _ _).1 h0)) (psaid_small ((pfault_ok _ _ _).1 h1)) h
      · rw [if_neg h2] at h
        exact hno (by decide) h
    · rw [if_neg h1] at h
      exact hno h1 h
  · rw [if_neg h0] at h
    exact hno h0 h

set_option maxHeartbeats 400000 in
theorem is_one (s t : Bytes) (r : Int) (w : World) (h : isClash s t r) :
    Calls Try.prog 19 #[.string (S s), .string (S t), .int .i64 r] w fun e w' => e = .returned (.bool true) ∧ ∃ m, w' = w.drewN m := by
  obtain ⟨hs, ht, ⟨rfl, hal⟩ | ⟨h0, rfl, rfl⟩⟩ := h
  · have hK := fun w => Lib.hid (markAlike s t w hs ht true hal)
    clear hal hs ht
    go_enter Try.func19, Try.ntmps19
    go_wp2_with fail
    refine (hK _).out.mono ?_
    rintro e w1 ⟨rfl, m, rfl⟩
    go_wp2
    go_ret
    exact ⟨rfl, _, rfl⟩
  · have c1 : (r == 0) = false := beq_eq_false_iff_ne.2 h0
    clear h0 hs ht
    rw [S_nil]
    go_enter Try.func19, Try.ntmps19
    go_wp2
    go_ret
    exact ⟨rfl, 0, rfl⟩

theorem below_drew {w w' : World} {m : Nat} (h : w' = w.drewN m) : Below w.heap.size w w' := by subst h; exact below_of_drewN _ _ _
theorem texts_nil (w : World) : Calls Try.prog 6 #[.slice none 0 0, .slice none 0 0] w fun e w' => e = .returned (.tuple #[.string ⟨#[]⟩, .string ⟨#[]⟩, .int .i64 3]) ∧ ∃ m, w' = w.drewN m :=
  clashTexts none none 0 0 [] [] w (by simp) (by simp) (by simp) (Row.nil_ _ _) (Row.nil_ _ _) [] [] 3 rfl

set_option maxHeartbeats 400000 in
theorem clashes (w : World) : Calls Try.prog 18 #[] w fun e w' => e = .returned (.bool true) ∧ ∃ m, w' = w.drewN m := by
  have h := fun w => Lib.hid (texts_nil w)
  go_enter Try.func18, Try.ntmps18
  go_wp2_with fail
  refine (h _).out.mono ?_
  rintro e w1 ⟨rfl, m, rfl⟩
  go_wp2
  go_ret
  exact ⟨rfl, _, rfl⟩

set_option maxHeartbeats 2000000 in
theorem clashIs_walk (C D : Option Addr) (e f : Nat) (a b : List Bytes) (n n' : Bytes) (es es' : List Ent) (ss ss' : List Nat) (A B A' B' : Option Addr) (c d c' d' : Nat) (w : World)
    (hma : a.length ≤ maxLen) (ha : ∀ s ∈ a, s.length ≤ maxLen) (hb : ∀ s ∈ b, s.length ≤ maxLen)
    (hn : n.length ≤ maxLen) (hm : es.length ≤ maxLen) (hes : ∀ x ∈ es, x.1.length ≤ maxLen ∧ x.2.length ≤ maxLen) (hsm : ss.length ≤ maxLen)
    (hn' : n'.length ≤ maxLen) (hm' : es'.length ≤ maxLen) (hes' : ∀ x ∈ es', x.1.length ≤ maxLen ∧ x.2.length ≤ maxLen) (hsm' : ss'.length ≤ maxLen)
    (hC : Row w C (scells a)) (hD : Row w D (scells b)) (hA : Row w A (encells es)) (hB : Row w B (mcells ss)) (hA' : Row w A' (encells es')) (hB' : Row w B' (mcells ss')) :
    Calls Try.prog 5 #[.slice C a.length e, .slice D b.length f, .agg #[.string (S n), .slice A es.length c, .slice B ss.length d], .agg #[.string (S n'), .slice A' es'.length c', .slice B' ss'.length d']] w fun e w' => e = .returned (.bool true) ∧ Below w.heap.size w w' := by
  have hb0 : Below w.heap.size w ((w.alloc (.cells #[.string (S n), .slice A es.length c, .slice B ss.length d] 26)).alloc (.cells #[.string (S n'), .slice A' es'.length c', .slice B' ss'.length d'] 26)) := ((Below.refl _ _).alloc (Nat.le_refl _) _).alloc (by simp) _
  have hx0 := (PBox.new w n A B es.length c ss.length d 26).alloc (.cells #[.string (S n'), .slice A' es'.length c', .slice B' ss'.length d'] 26)
  have hy0 := PBox.new (w.alloc (.cells #[.string (S n), .slice A es.length c, .slice B ss.length d] 26)) n' A' B' es'.length c' ss'.length d' 26
  have hsz : (w.alloc (.cells #[.string (S n), .slice A es.length c, .slice B ss.length d] 26)).heap.size = w.heap.size + 1 := by simp
  rw [hsz] at hy0
  clear hsz
  have hL := fun w => Lib.hid (clashes w)
  obtain ⟨x, y, r, h1⟩ : ∃ x y r, clashOf a b = (x, y, r) := ⟨_, _, _, rfl⟩
  obtain ⟨x', y', r', h2⟩ : ∃ x y r, proofsAns n es ss n' es' ss' = (x, y, r) := ⟨_, _, _, rfl⟩
  have hT := fun (w : World) hA hB => Lib.hid (clashTexts C D e f a b w hma ha hb hA hB x y r h1)
  have hP := fun (w : World) hA hB hA' hB' => Lib.hid (clashProofs n n' es es' ss ss' A B A' B' c d c' d' w hn hm hes hsm hn' hm' hes' hsm' hA hB hA' hB' x' y' r' h2)
  have hI := fun w => Lib.hid (is_one x y r w (clashOf_is ha hb h1))
  have hJ := fun w => Lib.hid (is_one x' y' r' w (proofsAns_is h2))
  obtain ⟨k0, k1, k2⟩ := hx0
  obtain ⟨j0, j1, j2⟩ := hy0
  clear h1 h2 hn hn' hm hm' hes hes' hsm hsm' hma ha hb
  go_enter Try.func5, Try.ntmps5
  go_wp2_with fail
  refine (hL _).out.mono ?_
  rintro e w1 ⟨rfl, m1, hw1⟩
  have hb1 := below_drew hw1
  have hx1 := (PBox.mk k0 k1 k2).below hb1
  have hy1 := (PBox.mk j0 j1 j2).below hb1
  have hb01 := below_chain hb0 hb1
  clear k0 k1 k2 j0 j1 j2 hb0 hb1 hL hw1
  obtain ⟨k0, k1, k2⟩ := hx1
  obtain ⟨j0, j1, j2⟩ := hy1
  go_wp2_with fail
  refine (hT _ (hC.below hb01) (hD.below hb01)).out.mono ?_
  rintro e w2 ⟨rfl, m2, hw2⟩
  have hb2 := below_drew hw2
  have hx2 := (PBox.mk k0 k1 k2).below hb2
  have hy2 := (PBox.mk j0 j1 j2).below hb2
  have hb02 := below_chain hb01 hb2
  clear k0 k1 k2 j0 j1 j2 hb01 hb2 hT hw2
  obtain ⟨k0, k1, k2⟩ := hx2
  obtain ⟨j0, j1, j2⟩ := hy2
  go_wp2_with fail
  refine (hP _ (hA.below hb02) (hB.below hb02) (hA'.below hb02) (hB'.below hb02)).out.mono ?_
  rintro e w3 ⟨rfl, hb3⟩
  have hb03 := below_chain hb02 hb3
  clear k0 k1 k2 j0 j1 j2 hP hb02 hb3
  go_wp2_with fail
  refine (hI _).out.mono ?_
  rintro e w4 ⟨rfl, m4, rfl⟩
  go_wp2_with fail
  refine (hJ _).out.mono ?_
  rintro e w5 ⟨rfl, m5, rfl⟩
  go_wp2
  go_ret
  exact ⟨by simp, below_drewN hb03 _⟩

set_option maxRecDepth 100000 in
theorem clashIs_lifted (os : Os) (started : os.Started) (H : Type) (enc : TypeId × Value → H) :
    ReturnsInHanded {} Try.checked os 5 .any (Rows.clashIsSpec.pre6 enc Try.prog Try.f5 Rows.clashIsRow.domain false) (Rows.clashIsSpec.post enc Try.prog Try.f5 false true false false) := by
  refine returnsInHanded_of_change (C := Try.checked) own started (by kernel_rfl) Try.func5
    (ChangeSpec.witness6 (enc := enc) (C := Try.checked) false ⟨#[], #[.slice none 0 0, .slice none 0 0, .agg #[.string ⟨#[]⟩, .slice none 0 0, .slice none 0 0], .agg #[.string ⟨#[]⟩, .slice none 0 0, .slice none 0 0]], []⟩ 8 (by kernel_rfl) (by kernel_rfl) (by kernel_rfl) (by kernel_rfl)) ?_
  intro W base args ds gs before hval0 hW hcnd _
  have hval : ∀ (j : Nat) t v, Try.f5.params[j]? = some t → args[j]? = some v → Value.okWide Try.prog W .any base t v := hval0
  have hW' := hW
  obtain ⟨p, q, hA0, hV, rfl, hfz, hnd⟩ := hW
  have hA : DataW.TrodAll enc Try.prog W 0 (fun _ => true) true Try.f5.params.toList args.toList ds p := hA0
  rw [Try.params5] at hA hval
  obtain ⟨v0, vs0, d0, ds0, p0, q0, hargs, rfl, rfl, h0, r0⟩ := trodAll_cons hA
  obtain ⟨v1, vs1, d1, ds1, p1, q1, rfl, rfl, rfl, h1, r1⟩ := trodAll_cons r0
  obtain ⟨v2, vs2, d2, ds2, p2, q2, rfl, rfl, rfl, h2, r2⟩ := trodAll_cons r1
  obtain ⟨v3, vs3, d3, ds3, p3, q3, rfl, rfl, rfl, h3, r3⟩ := trodAll_cons r2
  obtain ⟨rfl, rfl, rfl⟩ := trodAll_nil r3
  obtain rfl : args = #[v0, v1, v2, v3] := by cases args; simp_all
  obtain ⟨rfl, rfl⟩ := trodVars_none hV
  obtain ⟨A0, c0, s0, rfl, hm0, hr0, hs0⟩ := arg_strs (hval 0 22 v0 rfl rfl) h0
  obtain ⟨A1, c1, s1, rfl, hm1, hr1, hs1⟩ := arg_strs (hval 1 22 v1 rfl rfl) h1
  obtain ⟨n2, A2, c2, e2, B2, d2, s2, rfl, hn2, hm2, hr2, hs2, hc2, km2, kr2, ks2, kc2⟩ := arg_prf (hval 2 26 v2 rfl rfl) h2
  obtain ⟨n3, A3, c3, e3, B3, d3, s3, rfl, hn3, hm3, hr3, hs3, hc3, km3, kr3, ks3, kc3⟩ := arg_prf (hval 3 26 v3 rfl rfl) h3
  refine (clashIs_walk A0 A1 c0 c1 s0 s1 n2 n3 e2 e3 s2 s3 A2 B2 A3 B3 c2 d2 c3 d3 _ hm0 hs0 hs1 hn2 hm2 hs2 km2 hn3 hm3 hs3 km3 hr0 hr1 hr2 kr2 hr3 kr3).mono fun e W' ⟨he, hb⟩ => ?_
  subst he
  exact ⟨_, rfl, post_law laidOut (by decide +kernel) rfl Try.underlying4 (by kernel_rfl) hW' rfl hb⟩

/-- The statement. -/
theorem clashIs_said : Rows.ClashIsSaid :=
  OpenClaim.holds_of_wide 5 Try.f5 rfl rfl rfl rfl rfl rfl rfl ⟨rfl, rfl, rfl, rfl, rfl⟩ rfl rfl rfl rfl rfl (by kernel_rfl) Try.func5 (by kernel_rfl)
    (of_decide_eq_true (by kernel_rfl)) (by unfold Func.isWrapper; first | (rw [if_pos (by decide +kernel)]; kernel_rfl) | (rw [if_neg (by decide +kernel)]; exact ⟨rfl, rfl⟩))
    (fun os started H enc _ => clashIs_lifted os started H enc)
#print axioms clashIs_said
end Go.Proofs.Yteclnibbgdbjfaa
