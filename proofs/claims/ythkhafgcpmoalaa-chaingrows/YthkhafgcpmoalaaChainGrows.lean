/- The law ChainGrows returns true. -/
import Derived.Test.YthkhafgcpmoalaaChainsLive
import Derived.Test.YthkhafgcpmoalaaHeadEq
import Derived.Test.YthkhafgcpmoalaaGood
import Derived.Test.YthkhafgcpmoalaaHeadsArg
import Derived.Test.YthkhafgcpmoalaaLaw
namespace Go.Proofs.Ythkhafgcpmoalaa
set_option maxRecDepth 100000
open Go.RowKit Go.ChangeShapes Go.WideShapes Go.ChangeAt

theorem chainGrows_a (A : Option Addr) (c : Nat) (l : List Hd) (rt : Nat) (tm : Int) (w : World) (hm : l.length ≤ maxLen) (hA : Row w A (hcells l)) (r : Int) (hr : growErr l rt tm = r) (h0 : r ≠ 0) :
    Calls Try.prog 5 #[.slice A l.length c, .int .u64 (rt : Int), .int .i64 tm] w fun e w' => e = .returned (.bool true) ∧ Below w.heap.size w w' := by
  have hL := fun w => Lib.hid (chains w)
  have hG := fun (w : World) hA => Lib.hid (chainGrow_no A c l rt tm w hm hA r hr h0)
  have c1 : (r == 0) = false := beq_eq_false_iff_ne.2 h0
  clear hr h0
  go_enter Try.func5, Try.ntmps5
  go_wp2_with fail
  refine (hL _).out.mono ?_
  rintro e w1 ⟨rfl, hb1⟩
  have hA1 := hA.below hb1
  clear hL hA
  go_wp2_with fail
  refine (hG _ hA1).out.mono ?_
  rintro e w2 ⟨rfl, hb2⟩
  have hb := below_chain hb1 hb2
  clear hG hA1 hb1 hb2
  go_wp2
  go_ret
  exact ⟨rfl, hb⟩

theorem cut_all (l t : List Hd) : cut (l ++ t) 0 l.length = l := by simp [cut]
theorem grown_part {l : List Hd} {rt : Nat} {tm : Int} (k : GrowOk l rt tm) : CGood (l ++ [nextOf (lastH l) rt tm]) ∧ ∀ f0 e0, (firstH l).1 = f0 → (lastH l).1 = e0 → PartOk (l ++ [nextOf (lastH l) rt tm]) f0 e0 ∧ cut (l ++ [nextOf (lastH l) rt tm]) (partAt (l ++ [nextOf (lastH l) rt tm]) f0) (partLen f0 e0) = l := by
  have hp := k.g.pos
  have hc : CGood (l ++ [nextOf (lastH l) rt tm]) := k.g.snoc _ k.n (by rw [← lastH_eq (by omega)]; exact links_nextOf k.k)
  refine ⟨hc, ?_⟩
  rintro f0 e0 rfl rfl
  have e1 : firstH (l ++ [nextOf (lastH l) rt tm]) = firstH l := by
    rw [firstH_at hp, firstH_at (by simp)]
    exact List.getElem_append_left hp
  have e2 := k.g.lastE
  have e3 := hc.lastE
  rw [e1, List.length_append, List.length_singleton] at e3
  refine ⟨⟨hc, by omega, by rw [e1]; omega, by omega⟩, ?_⟩
  have e4 : partAt (l ++ [nextOf (lastH l) rt tm]) (firstH l).1 = 0 := by unfold partAt; rw [e1]; omega
  have e5 : partLen (firstH l).1 (lastH l).1 = l.length := by unfold partLen; omega
  rw [e4, e5, cut_all]

set_option maxHeartbeats 2000000 in
theorem chainGrows_b (A : Option Addr) (c : Nat) (l : List Hd) (rt : Nat) (tm : Int) (w : World) (hA : Row w A (hcells l)) (k : GrowOk l rt tm) :
    Calls Try.prog 5 #[.slice A l.length c, .int .u64 (rt : Int), .int .i64 tm] w fun e w' => e = .returned (.bool true) ∧ Below w.heap.size w w' := by
  have hL := fun w => Lib.hid (chains w)
  have hG := fun (w : World) hA => Lib.hid (chainGrow_ok A c l rt tm w hA k)
  have hlen := k.g.len
  have hpos := k.g.pos
  obtain ⟨hcg, hp⟩ := grown_part k
  obtain ⟨⟨f0, f1, f2, f3⟩, hf⟩ : ∃ x, firstH l = x := ⟨_, rfl⟩
  obtain ⟨⟨e0, e1, e2, e3⟩, he⟩ : ∃ x, lastH l = x := ⟨_, rfl⟩
  obtain ⟨hpk, hpc⟩ := hp f0 e0 (by rw [hf]) (by rw [he])
  obtain ⟨n, hn⟩ : ∃ n, l.length = n + 1 := ⟨l.length - 1, by omega⟩
  rw [firstH_at hpos] at hf
  have hlast : ∀ h : n < l.length, l[n] = (e0, e1, e2, e3) := fun h => by rw [← he, lastH_at hn]
  have hlg : (l ++ [nextOf (lastH l) rt tm]).length = l.length + 1 := by simp
  have hgl := hcg.len
  generalize l ++ [nextOf (lastH l) rt tm] = G at *
  have hC := fun (w : World) D d hA => Lib.hid (chainCheck D d G w (by unfold maxLen; omega) hA 0 0 (cfault_zero G hcg))
  have hP := fun (w : World) D d hd hdm hA => Lib.hid (chainPart_ok D d G f0 e0 w hd hdm hA hpk)
  rw [hpc] at hP
  have hO := fun w g hg => Lib.hid (goods2 0 0 w g 26 hg true rfl)
  have hE := fun (w : World) B b hB hA => Lib.hid (eqHeads B A b c l l w (by unfold maxLen; omega) true (by simp) hB hA)
  have c1 : ((G.length : Int) == (n : Int) + 1 + 1) = true := beq_iff_eq.2 (by omega)
  have i1 : IntKind.i64.wrap ((n : Int) + 1 - 1) = (n : Int) := by rw [IntKind.wrap_i64]; omega
  have i6 : IntKind.i64.wrap (n : Int) = (n : Int) := by rw [IntKind.wrap_i64]; omega
  have i5 : IntKind.i64.wrap ((n : Int) + 1 + 1) = (n : Int) + 1 + 1 := by rw [IntKind.wrap_i64]; omega
  have i0 : (0 : Int) < (n : Int) + 1 := by omega
  have i2 : (0 : Int) ≤ (n : Int) := by omega
  have i3 : (n : Int) < (n : Int) + 1 := by omega
  have hnl : n < l.length := by omega
  have HN := Lib.hid hn
  rw [hn] at hG hE ⊢
  clear hp hpk hpc hcg k he hgl hlg hlen hn
  go_enter Try.func5, Try.ntmps5
  go_wp2_with fail
  refine (hL _).out.mono ?_
  rintro e w1 ⟨rfl, hb1⟩
  have hA1 := hA.below hb1
  clear hL hA
  go_wp2_with fail
  refine (hG _ hA1).out.mono ?_
  rintro e w2 ⟨D, d, rfl, hown2, hb2⟩
  have hb := below_chain hb1 hb2
  have hA2 := hA1.below hb2
  obtain ⟨hd, hdm⟩ := own_cap hown2
  have hR2 := Row.ownN hown2
  clear hG hA1 hb1 hb2 hown2
  go_wp2_with fail
  refine (hC _ _ _ hR2).out.mono ?_
  rintro e w3 ⟨rfl, hb3⟩
  have hb' := below_chain hb hb3
  have hA3 := hA2.below hb3
  have hR3 := hR2.below hb3
  obtain ⟨g, off, rfl, j0, -, -, -⟩ := hA3.head 0 hpos
  obtain ⟨g', off', eA, k0, -, -, -⟩ := hA3.head n hnl
  injection eA with eA
  injection eA with eA1 eA2
  subst eA1; subst eA2
  rw [hf, Nat.zero_mul, Nat.add_zero] at j0
  rw [hlast hnl] at k0
  dsimp only at j0 k0
  have hb9 : Below w3.heap.size w3 w3.drew := bdrew (Below.refl _ _)
  have hP' : ∀ W : World, (W.cell? ⟨g, off, none⟩ = some (.int .i64 f0) ∧ W.cell? ⟨g, off + n * 4, none⟩ = some (.int .i64 e0) ∧ Below w3.heap.size w3 W) → Hid (Calls Try.prog 10 #[.slice D G.length d, .int .i64 f0, .int .i64 e0] W fun e w' => ∃ B b, e = .returned (.tuple #[.slice B (n + 1) b, .int .i64 0]) ∧ Row w' B (hcells l) ∧ w'.cell? ⟨g, off, none⟩ = some (.int .i64 f0) ∧ w'.cell? ⟨g, off + n * 4, none⟩ = some (.int .i64 e0) ∧ Below w3.heap.size w3 w') := fun W ⟨q1, q2, q3⟩ => by
    show Calls _ _ _ _ _
    refine (hP W D d hd hdm (hR3.below q3)).out.mono ?_
    rintro e w' ⟨B, b, rfl, hown, hb⟩
    exact ⟨B, b, by rw [HN.out], Row.ownN hown, kept q1 hb, kept q2 hb, below_chain q3 hb⟩
  clear hC hP hb hA2 hb3 hf hlast hR2 hd hdm hnl hpos HN
  go_wp2
  go_region_held3 (fun w' => w'.cell? ⟨g, off, none⟩ = some (.int .i64 f0) ∧ w'.cell? ⟨g, off + n * 4, none⟩ = some (.int .i64 e0) ∧ Below w3.heap.size w3 w') (first | exact ⟨j0, k0, hb9⟩ | exact ⟨by assumption, by assumption, by assumption⟩ | go_keep)
    (first | (go_at_call 10; refine (hP' _ ?_).out.mono ?_; (first | exact ⟨by assumption, by assumption, by assumption⟩); rintro e w4 ⟨B, b, rfl, hB4, k1, k2, k3⟩))
  have hA4 := hA3.below k3
  have hbw4 := below_chain hb' k3
  clear hP' hA3 hR3 hb' k1 k2 k3 j0 k0 hb9
  go_wp2_with fail
  refine (hO _ _ rfl).out.mono ?_
  rintro e w5 ⟨rfl, rfl⟩
  have hA5 := hA4.alloc (.cells #[.int .i64 0, .int .i64 0] 26)
  have hB5 := hB4.alloc (.cells #[.int .i64 0, .int .i64 0] 26)
  have hbw5 := hbw4.alloc hbw4.size (.cells #[.int .i64 0, .int .i64 0] 26)
  clear hO hA4 hB4 hbw4
  go_wp2_with fail
  refine (hE _ _ _ hB5 hA5).out.mono ?_
  rintro e w6 ⟨rfl, m, rfl⟩
  have hbw6 := below_drewN hbw5 m
  clear hE hA5 hB5 hbw5
  go_wp2
  go_ret
  exact ⟨rfl, hbw6⟩

theorem chainGrows_walk (A : Option Addr) (c : Nat) (l : List Hd) (rt : Nat) (tm : Int) (w : World) (hm : l.length ≤ maxLen) (hA : Row w A (hcells l)) :
    Calls Try.prog 5 #[.slice A l.length c, .int .u64 (rt : Int), .int .i64 tm] w fun e w' => e = .returned (.bool true) ∧ Below w.heap.size w w' := by
  by_cases h : growErr l rt tm = 0
  · exact chainGrows_b A c l rt tm w hA ((growErr_ok l rt tm).1 h)
  · exact chainGrows_a A c l rt tm w hm hA _ rfl h

set_option maxRecDepth 100000 in
theorem chainGrows_lifted (os : Os) (started : os.Started) (H : Type) (enc : TypeId × Value → H) :
    ReturnsInHanded {} Try.checked os 5 .any (Rows.chainGrowsSpec.pre6 enc Try.prog Try.f5 Rows.chainGrowsRow.domain false) (Rows.chainGrowsSpec.post enc Try.prog Try.f5 false true false false) := by
  refine returnsInHanded_of_change (C := Try.checked) own started (by kernel_rfl) Try.func5
    (ChangeSpec.witness6 (enc := enc) (C := Try.checked) false ⟨#[], #[.slice none 0 0, .int .u64 0, .int .i64 0], []⟩ 8 (by kernel_rfl) (by kernel_rfl) (by kernel_rfl) (by kernel_rfl)) ?_
  intro W base args ds gs before hval0 hW hcnd _
  have hval : ∀ (j : Nat) t v, Try.f5.params[j]? = some t → args[j]? = some v → Value.okWide Try.prog W .any base t v := hval0
  have hW' := hW
  obtain ⟨p, q, hA0, hV, rfl, hfz, hnd⟩ := hW
  have hA : DataW.TrodAll enc Try.prog W 0 (fun _ => true) true Try.f5.params.toList args.toList ds p := hA0
  rw [Try.params5] at hA hval
  obtain ⟨v0, vs0, d0, ds0, p0, q0, hargs, rfl, rfl, h0, r0⟩ := trodAll_cons hA
  obtain ⟨v1, vs1, d1, ds1, p1, q1, rfl, rfl, rfl, h1, r1⟩ := trodAll_cons r0
  obtain ⟨v2, vs2, d2, ds2, p2, q2, rfl, rfl, rfl, h2, r2⟩ := trodAll_cons r1
  obtain ⟨rfl, rfl, rfl⟩ := trodAll_nil r2
  obtain rfl : args = #[v0, v1, v2] := by cases args; simp_all
  obtain ⟨rfl, rfl⟩ := trodVars_none hV
  obtain ⟨A0, c0, s0, rfl, hm0, hr0, hc0, hd0, hs0, -⟩ := arg_heads (hval 0 22 v0 rfl rfl) h0
  obtain ⟨n1, rfl, hn1⟩ := arg_u64 (hval 1 23 v1 rfl rfl) h1
  obtain ⟨x2, rfl, hx2, hy2⟩ := arg_int64 (hval 2 2 v2 rfl rfl) h2
  refine (chainGrows_walk A0 c0 s0 n1 x2 W hm0 hr0).mono fun e W' ⟨he, hb⟩ => ?_
  subst he
  exact ⟨_, rfl, post_law laidOut (by decide +kernel) rfl Try.underlying4 (by kernel_rfl) hW' rfl hb⟩

/-- The statement. -/
theorem chainGrows_said : Rows.ChainGrowsSaid :=
  OpenClaim.holds_of_wide 5 Try.f5 rfl rfl rfl rfl rfl rfl rfl ⟨rfl, rfl, rfl, rfl, rfl⟩ rfl rfl rfl rfl rfl (by kernel_rfl) Try.func5 (by kernel_rfl)
    (of_decide_eq_true (by kernel_rfl)) (by unfold Func.isWrapper; first | (rw [if_pos (by decide +kernel)]; kernel_rfl) | (rw [if_neg (by decide +kernel)]; exact ⟨rfl, rfl⟩))
    (fun os started H enc _ => chainGrows_lifted os started H enc)
#print axioms chainGrows_said
end Go.Proofs.Ythkhafgcpmoalaa
