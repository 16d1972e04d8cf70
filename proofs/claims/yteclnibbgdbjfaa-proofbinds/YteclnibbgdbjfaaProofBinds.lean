/- ProofBinds: two proofs of one name with the same root that tell different things yield a collision (Merkle). -/
import Derived.Test.YteclnibbgdbjfaaProofLive
import Derived.Test.YteclnibbgdbjfaaProofRoot
import Derived.Test.YteclnibbgdbjfaaClashProofs
import Derived.Test.YteclnibbgdbjfaaGood
import Derived.Test.YteclnibbgdbjfaaArgs
import Derived.Test.YteclnibbgdbjfaaLaw
namespace Go.Proofs.Yteclnibbgdbjfaa
set_option maxRecDepth 100000
open Go.ChangeShapes Go.WideShapes Go.ChangeAt Go.RowKit

theorem tell_ne {root : Nat} {n : Bytes} {es es' : List Ent} {ss ss' : List Nat} {x x' : Bytes} {b b' : Bool} (h : tellAns root n es ss = (x, b, 0)) (h' : tellAns root n es' ss' = (x', b', 0)) (hne : ¬ (x = x' ∧ b = b')) :
    ∃ s t, proofsAns n es ss n es' ss' = (s, t, 0) ∧ alikeB s t = true ∧ s.length ≤ maxLen ∧ t.length ≤ maxLen := by
  unfold tellAns at h h'
  by_cases h0 : verr root n es ss = 0
  · by_cases h1 : verr root n es' ss' = 0
    · rw [if_pos h0] at h
      rw [if_pos h1] at h'
      obtain ⟨hp, hr⟩ := (verr_ok _ _ _ _).1 h0
      obtain ⟨hq, hr'⟩ := (verr_ok _ _ _ _).1 h1
      have hc := binds n es es' ss ss' hp hq (hr.trans hr'.symm) (fun e => hne (by
        rw [e] at h
        injection h with a1 a2
        injection a2 with a2 _
        injection h' with b1 b2
        injection b2 with b2 _
        exact ⟨a1.symm.trans b1, a2.symm.trans b2⟩))
      have hal := clashOf_alike _ _ hc
      have hsm := clashOf_small (psaid_small hp) (psaid_small hq)
      have hans : proofsAns n es ss n es' ss' = clashOf (psaid n es ss) (psaid n es' ss') := by
        rw [proofsAns, if_pos ((pfault_ok _ _ _).2 hp), if_pos ((pfault_ok _ _ _).2 hq), if_pos rfl]
      generalize clashOf (psaid n es ss) (psaid n es' ss') = z at *
      obtain ⟨s, t, r⟩ := z
      obtain rfl : r = 0 := hc
      exact ⟨s, t, hans, (alikeB_iff _ _).2 hal, hsm⟩
    · rw [if_neg h1] at h'
      injection h' with _ h2
      injection h2 with _ h2
      exact absurd h2 h1
  · rw [if_neg h0] at h
    injection h with _ h2
    injection h2 with _ h2
    exact absurd h2 h0

set_option maxHeartbeats 2000000 in
theorem proofBinds_walk (root : Nat) (n n' : Bytes) (es es' : List Ent) (ss ss' : List Nat) (A B A' B' : Option Addr) (c d c' d' : Nat) (w : World)
    (hn : n.length ≤ maxLen) (hm : es.length ≤ maxLen) (hes : ∀ x ∈ es, x.1.length ≤ maxLen ∧ x.2.length ≤ maxLen) (hsm : ss.length ≤ maxLen)
    (hn' : n'.length ≤ maxLen) (hm' : es'.length ≤ maxLen) (hes' : ∀ x ∈ es', x.1.length ≤ maxLen ∧ x.2.length ≤ maxLen) (hsm' : ss'.length ≤ maxLen)
    (hA : Row w A (encells es)) (hB : Row w B (mcells ss)) (hA' : Row w A' (encells es')) (hB' : Row w B' (mcells ss')) :
    Calls Try.prog 4 #[.int .u64 (root : Int), .agg #[.string (S n), .slice A es.length c, .slice B ss.length d], .agg #[.string (S n'), .slice A' es'.length c', .slice B' ss'.length d']] w fun e w' => e = .returned (.bool true) ∧ Below w.heap.size w w' := by
  have hb0 : Below w.heap.size w ((w.alloc (.cells #[.string (S n), .slice A es.length c, .slice B ss.length d] 26)).alloc (.cells #[.string (S n'), .slice A' es'.length c', .slice B' ss'.length d'] 26)) := ((Below.refl _ _).alloc (Nat.le_refl _) _).alloc (by simp) _
  have hx0 := (PBox.new w n A B es.length c ss.length d 26).alloc (.cells #[.string (S n'), .slice A' es'.length c', .slice B' ss'.length d'] 26)
  have hy0 := PBox.new (w.alloc (.cells #[.string (S n), .slice A es.length c, .slice B ss.length d] 26)) n' A' B' es'.length c' ss'.length d' 26
  have hsz : (w.alloc (.cells #[.string (S n), .slice A es.length c, .slice B ss.length d] 26)).heap.size = w.heap.size + 1 := by simp
  rw [hsz] at hy0
  clear hsz
  have hL := fun w => Lib.hid (proofs w)
  obtain ⟨x, b, r, h1⟩ : ∃ x b r, tellAns root n es ss = (x, b, r) := ⟨_, _, _, rfl⟩
  obtain ⟨x', b', r', h2⟩ : ∃ x b r, tellAns root n' es' ss' = (x, b, r) := ⟨_, _, _, rfl⟩
  have hT := fun (w : World) hA hB => Lib.hid (proofTell root n es ss A B c d w hn hm hes hsm hA hB x b r h1)
  have hT' := fun (w : World) hA hB => Lib.hid (proofTell root n' es' ss' A' B' c' d' w hn' hm' hes' hsm' hA hB x' b' r' h2)
  have hG := fun w g hg => Lib.hid (goods2 r r' w g 27 hg _ rfl)
  have HX : Hid (r = 0 → r' = 0 → n = n' → ¬ (x = x' ∧ b = b') → ∃ s t, proofsAns n es ss n' es' ss' = (s, t, 0) ∧ alikeB s t = true ∧ s.length ≤ maxLen ∧ t.length ≤ maxLen) := fun e1 e2 e3 e4 => by
    subst e1; subst e2; subst e3
    exact tell_ne h1 h2 e4
  have hP := fun (s t : Bytes) hs (w : World) hA hB hA' hB' => Lib.hid (clashProofs n n' es es' ss ss' A B A' B' c d c' d' w hn hm hes hsm hn' hm' hes' hsm' hA hB hA' hB' s t 0 hs)
  obtain ⟨k0, k1, k2⟩ := hx0
  obtain ⟨j0, j1, j2⟩ := hy0
  clear h1 h2 hn hn' hm hm' hes hes' hsm hsm'
  go_enter Try.func4, Try.ntmps4
  go_wp2_with fail
  refine (hL _).out.mono ?_
  rintro e w1 ⟨rfl, hb1⟩
  have hx1 := (PBox.mk k0 k1 k2).below hb1
  have hy1 := (PBox.mk j0 j1 j2).below hb1
  have hb01 := below_chain hb0 hb1
  clear k0 k1 k2 j0 j1 j2 hb0 hb1 hL
  obtain ⟨k0, k1, k2⟩ := hx1
  obtain ⟨j0, j1, j2⟩ := hy1
  go_wp2_with fail
  refine (hT _ (hA.below hb01) (hB.below hb01)).out.mono ?_
  rintro e w2 ⟨rfl, hb2⟩
  have hx2 := (PBox.mk k0 k1 k2).below hb2
  have hy2 := (PBox.mk j0 j1 j2).below hb2
  have hb02 := below_chain hb01 hb2
  clear k0 k1 k2 j0 j1 j2 hb01 hb2 hT
  obtain ⟨k0, k1, k2⟩ := hx2
  obtain ⟨j0, j1, j2⟩ := hy2
  go_wp2_with fail
  refine (hT' _ (hA'.below hb02) (hB'.below hb02)).out.mono ?_
  rintro e w3 ⟨rfl, hb3⟩
  have hx3 := ((PBox.mk k0 k1 k2).below hb3).alloc (.cells #[.int .i64 r, .int .i64 r'] 27)
  have hy3 := ((PBox.mk j0 j1 j2).below hb3).alloc (.cells #[.int .i64 r, .int .i64 r'] 27)
  have hb03 := below_chain hb02 hb3
  have hb04 : Below w.heap.size w (w3.alloc (.cells #[.int .i64 r, .int .i64 r'] 27)) := hb03.alloc hb03.size _
  clear k0 k1 k2 j0 j1 j2 hb02 hb3 hT'
  obtain ⟨k0, k1, k2⟩ := hx3
  obtain ⟨j0, j1, j2⟩ := hy3
  go_wp2_with fail
  refine (hG _ _ rfl).out.mono ?_
  rintro e w4 ⟨rfl, hw4⟩
  have hw := hw4.symm
  subst hw
  clear hG hb03
  by_cases g0 : (r == 0 && r' == 0) = true
  · rw [g0]
    rw [Bool.and_eq_true, beq_iff_eq, beq_iff_eq] at g0
    obtain ⟨rfl, rfl⟩ := g0
    by_cases gn : n = n'
    · have c1 : (n == n') = true := beq_iff_eq.2 gn
      by_cases gv : x = x'
      · have c2 : (x == x') = true := beq_iff_eq.2 gv
        by_cases gb : b = b'
        · have c3 : (b == b') = true := beq_iff_eq.2 gb
          clear HX hP gn gv gb
          go_wp2
          go_ret
          exact ⟨rfl, hb04⟩
        · have c3 : (b == b') = false := beq_eq_false_iff_ne.2 gb
          obtain ⟨s, t, hs, hal, hls, hlt⟩ := HX.out rfl rfl gn (fun h => gb h.2)
          have hQ := fun (w : World) hA hB hA' hB' => hP s t hs w hA hB hA' hB'
          have hK := fun w => Lib.hid (markAlike s t w hls hlt true hal)
          clear HX hP gn gv gb hs hal hls hlt
          go_wp2_with fail
          refine (hQ _ (hA.below hb04) (hB.below hb04) (hA'.below hb04) (hB'.below hb04)).out.mono ?_
          rintro e w5 ⟨rfl, hb5⟩
          go_wp2_with fail
          refine (hK _).out.mono ?_
          rintro e w6 ⟨rfl, m, rfl⟩
          go_wp2
          go_ret
          exact ⟨rfl, below_drewN (below_chain hb04 hb5) _⟩
      · have c2 : (x == x') = false := beq_eq_false_iff_ne.2 gv
        obtain ⟨s, t, hs, hal, hls, hlt⟩ := HX.out rfl rfl gn (fun h => gv h.1)
        have hQ := fun (w : World) hA hB hA' hB' => hP s t hs w hA hB hA' hB'
        have hK := fun w => Lib.hid (markAlike s t w hls hlt true hal)
        clear HX hP gn gv hs hal hls hlt
        go_wp2_with fail
        refine (hQ _ (hA.below hb04) (hB.below hb04) (hA'.below hb04) (hB'.below hb04)).out.mono ?_
        rintro e w5 ⟨rfl, hb5⟩
        go_wp2_with fail
        refine (hK _).out.mono ?_
        rintro e w6 ⟨rfl, m, rfl⟩
        go_wp2
        go_ret
        exact ⟨rfl, below_drewN (below_chain hb04 hb5) _⟩
    · have c1 : (n == n') = false := beq_eq_false_iff_ne.2 gn
      clear HX hP gn
      go_wp2
      go_ret
      exact ⟨rfl, hb04⟩
  · rw [Bool.not_eq_true] at g0
    rw [g0]
    clear HX hP g0
    go_wp2
    go_ret
    exact ⟨rfl, hb04⟩

set_option maxRecDepth 100000 in
theorem proofBinds_lifted (os : Os) (started : os.Started) (H : Type) (enc : TypeId × Value → H) :
    ReturnsInHanded {} Try.checked os 4 .any (Rows.proofBindsSpec.pre6 enc Try.prog Try.f4 Rows.proofBindsRow.domain false) (Rows.proofBindsSpec.post enc Try.prog Try.f4 false true false false) := by
  refine returnsInHanded_of_change (C := Try.checked) own started (by kernel_rfl) Try.func4
    (ChangeSpec.witness6 (enc := enc) (C := Try.checked) false ⟨#[], #[.int .u64 0, .agg #[.string ⟨#[]⟩, .slice none 0 0, .slice none 0 0], .agg #[.string ⟨#[]⟩, .slice none 0 0, .slice none 0 0]], []⟩ 8 (by kernel_rfl) (by kernel_rfl) (by kernel_rfl) (by kernel_rfl)) ?_
  intro W base args ds gs before hval0 hW hcnd _
  have hval : ∀ (j : Nat) t v, Try.f4.params[j]? = some t → args[j]? = some v → Value.okWide Try.prog W .any base t v := hval0
  have hW' := hW
  obtain ⟨p, q, hA0, hV, rfl, hfz, hnd⟩ := hW
  have hA : DataW.TrodAll enc Try.prog W 0 (fun _ => true) true Try.f4.params.toList args.toList ds p := hA0
  rw [Try.params4] at hA hval
  obtain ⟨v0, vs0, d0, ds0, p0, q0, hargs, rfl, rfl, h0, r0⟩ := trodAll_cons hA
  obtain ⟨v1, vs1, d1, ds1, p1, q1, rfl, rfl, rfl, h1, r1⟩ := trodAll_cons r0
  obtain ⟨v2, vs2, d2, ds2, p2, q2, rfl, rfl, rfl, h2, r2⟩ := trodAll_cons r1
  obtain ⟨rfl, rfl, rfl⟩ := trodAll_nil r2
  obtain rfl : args = #[v0, v1, v2] := by cases args; simp_all
  obtain ⟨rfl, rfl⟩ := trodVars_none hV
  obtain ⟨n0, rfl, hn0⟩ := arg_u64 (hval 0 37 v0 rfl rfl) h0
  obtain ⟨n1, A1, c1, e1, B1, d1, s1, rfl, hn1, hm1, hr1, hs1, hc1, km1, kr1, ks1, kc1⟩ := arg_prf (hval 1 26 v1 rfl rfl) h1
  obtain ⟨n2, A2, c2, e2, B2, d2, s2, rfl, hn2, hm2, hr2, hs2, hc2, km2, kr2, ks2, kc2⟩ := arg_prf (hval 2 26 v2 rfl rfl) h2
  refine (proofBinds_walk n0 n1 n2 e1 e2 s1 s2 A1 B1 A2 B2 c1 d1 c2 d2 _ hn1 hm1 hs1 km1 hn2 hm2 hs2 km2 hr1 kr1 hr2 kr2).mono fun e W' ⟨he, hb⟩ => ?_
  subst he
  exact ⟨_, rfl, post_law laidOut (by decide +kernel) rfl Try.underlying4 (by kernel_rfl) hW' rfl hb⟩

/-- The statement. -/
theorem proofBinds_said : Rows.ProofBindsSaid :=
  OpenClaim.holds_of_wide 4 Try.f4 rfl rfl rfl rfl rfl rfl rfl ⟨rfl, rfl, rfl, rfl, rfl⟩ rfl rfl rfl rfl rfl (by kernel_rfl) Try.func4 (by kernel_rfl)
    (of_decide_eq_true (by kernel_rfl)) (by unfold Func.isWrapper; first | (rw [if_pos (by decide +kernel)]; kernel_rfl) | (rw [if_neg (by decide +kernel)]; exact ⟨rfl, rfl⟩))
    (fun os started H enc _ => proofBinds_lifted os started H enc)
#print axioms proofBinds_said
end Go.Proofs.Yteclnibbgdbjfaa
