/- The law ChainParts returns true. -/
import Derived.Test.YthkhafgcpmoalaaChainsLive
import Derived.Test.YthkhafgcpmoalaaChainParted
import Derived.Test.YthkhafgcpmoalaaConcatH
import Derived.Test.YthkhafgcpmoalaaHeadEq
import Derived.Test.YthkhafgcpmoalaaGood
import Derived.Test.YthkhafgcpmoalaaHeadsArg
import Derived.Test.YthkhafgcpmoalaaLaw
namespace Go.Proofs.Ythkhafgcpmoalaa
set_option maxRecDepth 100000
open Go.RowKit Go.ChangeShapes Go.WideShapes Go.ChangeAt

theorem chainParts_a (A : Option Addr) (c : Nat) (l : List Hd) (fr mid to : Int) (w : World) (hm : l.length ≤ maxLen) (hA : Row w A (hcells l)) (r : Int) (hr : partErr l fr to = r) (h0 : r ≠ 0) :
    Calls Try.prog 6 #[.slice A l.length c, .int .i64 fr, .int .i64 mid, .int .i64 to] w fun e w' => e = .returned (.bool true) ∧ Below w.heap.size w w' := by
  have hL := fun w => Lib.hid (chains w)
  have hG := fun (w : World) hA => Lib.hid (chainPart_no A c l fr to w hm hA r hr h0)
  have c1 : (r == 0) = false := beq_eq_false_iff_ne.2 h0
  clear hr h0
  go_enter Try.func6, Try.ntmps6
  go_wp2_with fail
  refine (hL _).out.mono ?_
  rintro e w1 ⟨rfl, hb1⟩
  have hA1 := hA.below hb1
  clear hL hA
  go_wp2_with fail
  refine (hG _ hA1).out.mono ?_
  rintro e w2 ⟨rfl, hb2⟩
  have hb := below_chain hb1 hb2
  clear hG hA1 hb1 hb2
  go_wp2
  go_ret
  exact ⟨rfl, hb⟩

set_option maxHeartbeats 1000000 in
theorem chainParts_b (A : Option Addr) (c : Nat) (l : List Hd) (fr mid to : Int) (w : World) (hc : l.length ≤ c) (hcm : c ≤ maxLen) (hA : Row w A (hcells l)) (k : PartOk l fr to) (hout : mid < fr ∨ to ≤ mid) :
    Calls Try.prog 6 #[.slice A l.length c, .int .i64 fr, .int .i64 mid, .int .i64 to] w fun e w' => e = .returned (.bool true) ∧ Below w.heap.size w w' := by
  have hL := fun w => Lib.hid (chains w)
  have hG := fun (w : World) hA => Lib.hid (chainPart_ok A c l fr to w hc hcm hA k)
  have hcg := k.chain.1
  have hlg := hcg.len
  rw [show cut l (partAt l fr) (partLen fr to) = partOf l fr to from rfl] at hG
  generalize partOf l fr to = G at *
  have hC := fun (w : World) D d hA => Lib.hid (chainCheck D d G w (by unfold maxLen; omega) hA 0 0 (cfault_zero G hcg))
  clear k hc hcm hcg hlg
  by_cases h1 : mid < fr
  · have c1 : decide (mid < fr) = true := decide_eq_true h1
    clear hout h1
    go_enter Try.func6, Try.ntmps6
    go_wp2_with fail
    refine (hL _).out.mono ?_
    rintro e w1 ⟨rfl, hb1⟩
    have hA1 := hA.below hb1
    clear hL hA
    go_wp2_with fail
    refine (hG _ hA1).out.mono ?_
    rintro e w2 ⟨D, d, rfl, hown2, hb2⟩
    have hb := below_chain hb1 hb2
    have hR2 := Row.ownN hown2
    clear hG hA1 hb1 hb2 hown2
    go_wp2_with fail
    refine (hC _ _ _ hR2).out.mono ?_
    rintro e w3 ⟨rfl, hb3⟩
    have hb' := below_chain hb hb3
    clear hC hR2 hb hb3
    go_wp2
    go_ret
    exact ⟨rfl, hb'⟩
  · have c1 : decide (mid < fr) = false := decide_eq_false h1
    have c2 : decide (to ≤ mid) = true := decide_eq_true (by omega)
    clear hout h1
    go_enter Try.func6, Try.ntmps6
    go_wp2_with fail
    refine (hL _).out.mono ?_
    rintro e w1 ⟨rfl, hb1⟩
    have hA1 := hA.below hb1
    clear hL hA
    go_wp2_with fail
    refine (hG _ hA1).out.mono ?_
    rintro e w2 ⟨D, d, rfl, hown2, hb2⟩
    have hb := below_chain hb1 hb2
    have hR2 := Row.ownN hown2
    clear hG hA1 hb1 hb2 hown2
    go_wp2_with fail
    refine (hC _ _ _ hR2).out.mono ?_
    rintro e w3 ⟨rfl, hb3⟩
    have hb' := below_chain hb hb3
    clear hC hR2 hb hb3
    go_wp2
    go_ret
    exact ⟨rfl, hb'⟩

set_option maxHeartbeats 4000000 in
theorem chainParts_c (A : Option Addr) (c : Nat) (l : List Hd) (fr mid to : Int) (w : World) (hc : l.length ≤ c) (hcm : c ≤ maxLen) (hA : Row w A (hcells l)) (k : PartOk l fr to) (h1 : fr ≤ mid) (h2 : mid < to) :
    Calls Try.prog 6 #[.slice A l.length c, .int .i64 fr, .int .i64 mid, .int .i64 to] w fun e w' => e = .returned (.bool true) ∧ Below w.heap.size w w' := by
  obtain ⟨k1, k2, hXY, hfol⟩ := parts_plain k h1 h2
  have hL := fun w => Lib.hid (chains w)
  have hG := fun (w : World) hA => Lib.hid (chainPart_ok A c l fr to w hc hcm hA k)
  have hY := fun (w : World) hA => Lib.hid (chainPart_ok A c l fr mid w hc hcm hA k1)
  have hZ := fun (w : World) hA => Lib.hid (chainPart_ok A c l (mid + 1) to w hc hcm hA k2)
  have hcg := k.chain.1
  have hcy := k1.chain.1
  have hcz := k2.chain.1
  have wm : IntKind.i64.wrap (mid + 1) = mid + 1 := by
    have q1 := k.g.first0
    have q2 := k.g.lastE
    have q3 := k.g.len
    have q4 := k.c
    have q5 := k.b
    rw [IntKind.wrap_i64]
    omega
  rw [show cut l (partAt l fr) (partLen fr to) = partOf l fr to from rfl] at hG
  rw [show cut l (partAt l fr) (partLen fr mid) = partOf l fr mid from rfl] at hY
  rw [show cut l (partAt l (mid + 1)) (partLen (mid + 1) to) = partOf l (mid + 1) to from rfl] at hZ
  have c1 : decide (mid < fr) = false := decide_eq_false (by omega)
  have c2 : decide (to ≤ mid) = false := decide_eq_false (by omega)
  clear k k1 k2 hc hcm h1 h2
  generalize partOf l fr to = X at *
  generalize partOf l fr mid = Y at *
  generalize partOf l (mid + 1) to = Z at *
  obtain ⟨mid1, hmid1⟩ : ∃ x, mid + 1 = x := ⟨_, rfl⟩
  rw [hmid1] at hZ wm
  have hlg := hcg.len
  have hlx : X.length = Y.length + Z.length := by rw [hXY, List.length_append]
  have hpy := hcy.pos
  have hpz := hcz.pos
  obtain ⟨m, hm⟩ : ∃ m, Y.length = m + 1 := ⟨Y.length - 1, by omega⟩
  have hC := fun (w : World) D d hA => Lib.hid (chainCheck D d X w (by unfold maxLen; omega) hA 0 0 (cfault_zero _ hcg))
  have hO := fun w g hg => Lib.hid (goods2 0 0 w g 26 hg true rfl)
  obtain ⟨⟨e0, e1, e2, e3⟩, hlast⟩ : ∃ x, lastH Y = x := ⟨_, rfl⟩
  rw [hlast] at hfol
  have hF := fun (w : World) D d hA => Lib.hid (chainFollows D d Z e0 e1 e2 e3 w (by unfold maxLen; omega) hA true 0 hfol)
  have hV := fun (w : World) g hg A B c d hA hB => Lib.hid (concatH2' w 22 g hg A B c d Y Z (m + 1) Z.length hm rfl (by omega) hpz (by omega) hA hB)
  have hE := fun (w : World) A B c d hA hB => Lib.hid (eqHeads A B c d X X w (by unfold maxLen; omega) true (by simp) hA hB)
  rw [← hXY] at hV
  have hlastm : ∀ h : m < Y.length, Y[m] = (e0, e1, e2, e3) := fun h => by rw [← hlast, lastH_at hm]
  have hmY : m < Y.length := by omega
  have c3 : (((m : Int) + 1) == 0) = false := beq_eq_false_iff_ne.2 (by omega)
  have i2 : (0 : Int) ≤ (m : Int) := by omega
  have i3 : (m : Int) < (m : Int) + 1 := by omega
  have i4 : m + 1 ≤ 2 ^ 63 - 1 := by omega
  have HM := Lib.hid hm
  clear hfol hcg hcy hcz hlast hpy hlg hm hXY hlx
  go_enter Try.func6, Try.ntmps6
  go_wp2_with fail
  refine (hL _).out.mono ?_
  rintro e w1 ⟨rfl, hb1⟩
  have hA1 := hA.below hb1
  clear hL hA
  go_wp2_with fail
  refine (hG _ hA1).out.mono ?_
  rintro e w2 ⟨D, d, rfl, hown2, hb2⟩
  have hb := below_chain hb1 hb2
  have hA2 := hA1.below hb2
  have hX2 := Row.ownN hown2
  clear hG hA1 hb1 hb2 hown2
  go_wp2_with fail
  refine (hC _ _ _ hX2).out.mono ?_
  rintro e w3 ⟨rfl, hb3⟩
  have hb' := below_chain hb hb3
  have hA3 := hA2.below hb3
  have hX3 := hX2.below hb3
  clear hC hX2 hA2 hb hb3
  go_wp2_with fail
  refine (hY _ hA3).out.mono ?_
  rintro e w4 ⟨E, f, rfl, hown4, hb4⟩
  have hb5 := below_chain hb' hb4
  have hA4 := hA3.below hb4
  have hX4 := hX3.below hb4
  have hY4 := Row.ownN hown4
  rw [HM.out]
  clear hY hA3 hX3 hb' hb4 hown4
  go_wp2_with fail
  refine (hZ _ hA4).out.mono ?_
  rintro e w5 ⟨F, g, rfl, hown5, hb6⟩
  have hb7 := below_chain hb5 hb6
  have hX5 := hX4.below hb6
  have hY5 := hY4.below hb6
  have hZ5 := Row.ownN hown5
  clear hZ hA4 hX4 hY4 hb5 hb6 hown5
  go_wp2_with fail
  refine (hO _ _ rfl).out.mono ?_
  rintro e w6 ⟨rfl, rfl⟩
  have hX6 := hX5.alloc (.cells #[.int .i64 0, .int .i64 0] 26)
  have hY6 := hY5.alloc (.cells #[.int .i64 0, .int .i64 0] 26)
  have hZ6 := hZ5.alloc (.cells #[.int .i64 0, .int .i64 0] 26)
  have hb8 := hb7.alloc hb7.size (.cells #[.int .i64 0, .int .i64 0] 26)
  generalize w5.alloc (.cells #[.int .i64 0, .int .i64 0] 26) = w7 at *
  obtain ⟨g9, off9, rfl, j0, j1, j2, j3⟩ := hY6.head m hmY
  rw [hlastm hmY] at j0 j1 j2 j3
  dsimp only at j0 j1 j2 j3
  clear hO hX5 hY5 hZ5 hb7 hlastm hmid1 wm
  go_wp2_with fail
  refine (hF _ _ _ hZ6).out.mono ?_
  rintro e w8 ⟨rfl, hb9⟩
  have hX8 := hX6.below hb9
  have hY8 := hY6.below hb9
  have hZ8 := hZ6.below hb9
  have hb10 := below_chain hb8 hb9
  clear hF hX6 hY6 hZ6 hb8 hb9 j0 j1 j2 j3
  go_wp2_with fail
  refine (hV _ _ rfl _ _ _ _ hY8 hZ8).out.mono ?_
  rintro e w9 ⟨U, u, rfl, hown9, hb11⟩
  have hX9 := (hX8.alloc (.cells #[.slice (some ⟨g9, off9, none⟩) (m + 1) f, .slice F Z.length g] 22)).below hb11
  have hU9 := Row.ownN hown9
  have hb12 := below_chain (hb10.alloc hb10.size (.cells #[.slice (some ⟨g9, off9, none⟩) (m + 1) f, .slice F Z.length g] 22)) hb11
  clear hV hX8 hY8 hZ8 hb10 hb11 hown9
  go_wp2_with fail
  refine (hE _ _ _ _ _ hX9 hU9).out.mono ?_
  rintro e w10 ⟨rfl, q, rfl⟩
  have hb13 := below_drewN hb12 q
  clear hE hX9 hU9 hb12
  go_wp2
  go_ret
  exact ⟨rfl, hb13⟩

theorem chainParts_walk (A : Option Addr) (c : Nat) (l : List Hd) (fr mid to : Int) (w : World) (hm : l.length ≤ maxLen) (hc : l.length ≤ c) (hcm : c ≤ maxLen) (hA : Row w A (hcells l)) :
    Calls Try.prog 6 #[.slice A l.length c, .int .i64 fr, .int .i64 mid, .int .i64 to] w fun e w' => e = .returned (.bool true) ∧ Below w.heap.size w w' := by
  by_cases h : partErr l fr to = 0
  · have k := (partErr_ok l fr to).1 h
    by_cases h1 : mid < fr ∨ to ≤ mid
    · exact chainParts_b A c l fr mid to w hc hcm hA k h1
    · exact chainParts_c A c l fr mid to w hc hcm hA k (by omega) (by omega)
  · exact chainParts_a A c l fr mid to w hm hA _ rfl h

set_option maxRecDepth 100000 in
theorem chainParts_lifted (os : Os) (started : os.Started) (H : Type) (enc : TypeId × Value → H) :
    ReturnsInHanded {} Try.checked os 6 .any (Rows.chainPartsSpec.pre6 enc Try.prog Try.f6 Rows.chainPartsRow.domain false) (Rows.chainPartsSpec.post enc Try.prog Try.f6 false true false false) := by
  refine returnsInHanded_of_change (C := Try.checked) own started (by kernel_rfl) Try.func6
    (ChangeSpec.witness6 (enc := enc) (C := Try.checked) false ⟨#[], #[.slice none 0 0, .int .i64 0, .int .i64 0, .int .i64 0], []⟩ 8 (by kernel_rfl) (by kernel_rfl) (by kernel_rfl) (by kernel_rfl)) ?_
  intro W base args ds gs before hval0 hW hcnd _
  have hval : ∀ (j : Nat) t v, Try.f6.params[j]? = some t → args[j]? = some v → Value.okWide Try.prog W .any base t v := hval0
  have hW' := hW
  obtain ⟨p, q, hA0, hV, rfl, hfz, hnd⟩ := hW
  have hA : DataW.TrodAll enc Try.prog W 0 (fun _ => true) true Try.f6.params.toList args.toList ds p := hA0
  rw [Try.params6] at hA hval
  obtain ⟨v0, vs0, d0, ds0, p0, q0, hargs, rfl, rfl, h0, r0⟩ := trodAll_cons hA
  obtain ⟨v1, vs1, d1, ds1, p1, q1, rfl, rfl, rfl, h1, r1⟩ := trodAll_cons r0
  obtain ⟨v2, vs2, d2, ds2, p2, q2, rfl, rfl, rfl, h2, r2⟩ := trodAll_cons r1
  obtain ⟨v3, vs3, d3, ds3, p3, q3, rfl, rfl, rfl, h3, r3⟩ := trodAll_cons r2
  obtain ⟨rfl, rfl, rfl⟩ := trodAll_nil r3
  obtain rfl : args = #[v0, v1, v2, v3] := by cases args; simp_all
  obtain ⟨rfl, rfl⟩ := trodVars_none hV
  obtain ⟨A0, c0, s0, rfl, hm0, hr0, hc0, hd0, hs0, -⟩ := arg_heads (hval 0 22 v0 rfl rfl) h0
  obtain ⟨x1, rfl, hx1, hy1⟩ := arg_int64 (hval 1 2 v1 rfl rfl) h1
  obtain ⟨x2, rfl, hx2, hy2⟩ := arg_int64 (hval 2 2 v2 rfl rfl) h2
  obtain ⟨x3, rfl, hx3, hy3⟩ := arg_int64 (hval 3 2 v3 rfl rfl) h3
  refine (chainParts_walk A0 c0 s0 x1 x2 x3 W hm0 hc0 hd0 hr0).mono fun e W' ⟨he, hb⟩ => ?_
  subst he
  exact ⟨_, rfl, post_law laidOut (by decide +kernel) rfl Try.underlying4 (by kernel_rfl) hW' rfl hb⟩

/-- The statement. -/
theorem chainParts_said : Rows.ChainPartsSaid :=
  OpenClaim.holds_of_wide 6 Try.f6 rfl rfl rfl rfl rfl rfl rfl ⟨rfl, rfl, rfl, rfl, rfl⟩ rfl rfl rfl rfl rfl (by kernel_rfl) Try.func6 (by kernel_rfl)
    (of_decide_eq_true (by kernel_rfl)) (by unfold Func.isWrapper; first | (rw [if_pos (by decide +kernel)]; kernel_rfl) | (rw [if_neg (by decide +kernel)]; exact ⟨rfl, rfl⟩))
    (fun os started H enc _ => chainParts_lifted os started H enc)
#print axioms chainParts_said
end Go.Proofs.Ythkhafgcpmoalaa
