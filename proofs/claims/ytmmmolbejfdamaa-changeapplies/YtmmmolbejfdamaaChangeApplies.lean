/- The law ChangeApplies returns true: a book in which another one's entries are set differs from it only in names that the other one has not. No conditions. -/
import Derived.Test.YtmmmolbejfdamaaChangeLook
import Derived.Test.YtmmmolbejfdamaaChangeApply
import Derived.Test.YtmmmolbejfdamaaGood
import Derived.Test.YtmmmolbejfdamaaArgs
import Derived.Test.YtmmmolbejfdamaaLaw
namespace Go.Proofs.Ytmmmolbejfdamaa
open Go.ChangeShapes Go.WideShapes Go.ChangeAt Go.RowKit

theorem applyTo_stands (es c : List Ent) (hc : (c.map (·.1)).Pairwise Bin.R) (h : (applyTo es c).2 = 0) (n : Bytes) : stands (applyTo es c).1 n = (stands c n).or (stands es n) := by
  induction c generalizing es with
  | nil => rfl
  | cons x c ih =>
    rw [applyTo] at h ⊢
    by_cases hs : setErr es x.1 x.2 = 0
    · rw [if_pos hs] at h ⊢
      rw [List.map_cons, List.pairwise_cons] at hc
      rw [ih _ hc.2 h, stands_setTo]
      by_cases hn : n = x.1
      · have h0 : stands c n = none := (stands_none c n).2 fun hm => by
          have := hc.1 _ hm
          rw [hn] at this
          exact Bin.R.irrefl _ this
        have h1 : stands (x :: c) n = some x.2 := by rw [stands, if_pos (by rw [hn])]
        rw [h0, h1, if_pos hn]
        rfl
      · have h1 : stands (x :: c) n = stands c n := by rw [stands, if_neg fun e => hn (by first | exact e.symm | exact e)]
        rw [h1, if_neg hn]
    · rw [if_neg hs] at h
      exact absurd h hs
theorem applied_differ {a b : List Ent} (hb : Good b) (h : (applyRes a b).2 = 0) (n : Bytes) (hn : n ∈ differ (applyRes a b).1 b) : stands b n = none ∧ (stands a n).isSome = true := by
  have hf : fault a = 0 := (fault_ok a).2 (applyRes_good a b h).1
  have e : applyRes a b = applyTo a b := by rw [applyRes, if_pos hf]
  rw [e] at h hn
  have hs := applyTo_stands a b hb.order h n
  have hd := (differ_mem _ _ _).1 hn
  rw [hs] at hd
  cases hbn : stands b n with
  | some v => rw [hbn] at hd; exact absurd rfl hd
  | none =>
    rw [hbn] at hd
    refine ⟨rfl, ?_⟩
    cases han : stands a n with
    | some v => rfl
    | none => rw [han] at hd; exact absurd rfl hd

set_option maxRecDepth 100000 in
set_option maxHeartbeats 2000000 in
theorem changeApplies_walk (A B : Option Addr) (c d : Nat) (a b : List Ent) (w : World) (hma : a.length ≤ maxLen) (hea : ∀ x ∈ a, x.1.length ≤ maxLen ∧ x.2.length ≤ maxLen) (hmb : b.length ≤ maxLen) (heb : ∀ x ∈ b, x.1.length ≤ maxLen ∧ x.2.length ≤ maxLen) (hA : Row w A (encells a)) (hB : Row w B (encells b)) :
    Calls Try.prog 6 #[.slice A a.length c, .slice B b.length d] w fun e w' => e = .returned (.bool true) ∧ Below w.heap.size w w' := by
  have hL := fun w => Lib.hid (changes w)
  have hP := fun (w : World) hA hB => Lib.hid (changeApply A B c d a b w hma hea hmb heb hA hB (applyRes a b).1 (applyRes a b).2 rfl)
  have hKb := fun (w : World) hB => Lib.hid (treeCheck B d b w hmb heb hB _ rfl)
  by_cases h0 : (applyRes a b).2 = 0
  · obtain ⟨ha, hx⟩ := applyRes_good a b h0
    have hmem := fun (hb : Good b) n hn => applied_differ hb h0 n hn
    rw [h0] at hP
    have hKx := fun (D : Option Addr) (e : Nat) (w : World) hA => Lib.hid (treeCheck D e (applyRes a b).1 w (small_of_good hx).1 (small_of_good hx).2 hA _ ((fault_ok _).2 hx))
    by_cases hf : fault b = 0
    · have hb := (fault_ok b).1 hf
      have HM := Lib.hid (hmem hb)
      have HN := Lib.hid (differ_names hx hb)
      have hD := fun (D : Option Addr) (e : Nat) (w : World) hX hB => Lib.hid (changeDiff_yes D B e d (applyRes a b).1 b w hx hb hX hB)
      have hdl := differ_le (applyRes a b).1 b
      have hlx := hx.len
      have hlb := hb.len
      have hGb := fun (n : Bytes) (hn : Bin.name n = true) (o : Option Bytes) (ho : stands b n = o) (w : World) hB => Lib.hid (treeGet_yes B d b n w hb hn hB o ho)
      have hGa := fun (n : Bytes) (hn : Bin.name n = true) (o : Option Bytes) (ho : stands a n = o) (w : World) hA => Lib.hid (treeGet_yes A c a n w ha hn hA o ho)
      have h2 := fun w g hg => Lib.hid (goods2 0 0 w g 24 hg true rfl)
      rw [hf] at hKb
      clear hmem hf h0 ha hx hb hma hea hmb heb
      generalize (applyRes a b).1 = X at *
      generalize differ X b = T at *
      have hT48 : T.length ≤ 1000 := by omega
      clear hdl hlx hlb
      go_enter Try.func6, Try.ntmps6
      go_wp2_with fail
      refine (hL _).out.mono ?_
      rintro e w1 ⟨rfl, hb1⟩
      go_wp2_with fail
      refine (hP _ (hA.below hb1) (hB.below hb1)).out.mono ?_
      rintro e w2 ⟨D2, d2, rfl, hown2, hb2⟩
      have hb02 := below_chain hb1 hb2
      have hX2 := Row.ownE hown2.row
      clear hL hP hb1 hb2 hown2
      go_wp2_with fail
      refine (hKb _ (hB.below hb02)).out.mono ?_
      rintro e w3 ⟨rfl, hb3⟩
      have hb03 := below_chain hb02 hb3
      have hX3 := hX2.below hb3
      clear hKb hb02 hb3 hX2
      go_wp2_with fail
      refine (hD _ _ _ hX3 (hB.below hb03)).out.mono ?_
      rintro e w4 ⟨D4, d4, rfl, hr4, hb4⟩
      have hb04 := below_chain hb03 hb4
      have hX4 := hX3.below hb4
      clear hD hb03 hb4 hX3
      go_wp2_with fail
      go_loopw [44] (fun i wr => ∃ k : Nat, k ≤ T.length ∧ i = .int .i64 k ∧ Below w4.heap.size w4 wr) (fun i _ => T.length - (intOf i).toNat)
      case atStart => exact ⟨0, Nat.zero_le _, rfl, Below.refl _ _⟩
      case round =>
        obtain ⟨k, hk, rfl, hbl⟩ := hrel
        have hb0r := below_chain hb04 hbl
        by_cases hlt : k < T.length
        · obtain ⟨g, off, rfl, h1⟩ := (hr4.below hbl).strD k hlt
          have hi0 : (0 : Int) ≤ (k : Int) := by omega
          have hi1 : (k : Int) < (T.length : Int) := by omega
          have hnm := HN.out _ (List.getElem_mem hlt)
          obtain ⟨m1, m2⟩ := HM.out _ (List.getElem_mem hlt)
          have hgb := fun w hB => hGb T[k] hnm none m1 w hB
          obtain ⟨va, hva⟩ := Option.isSome_iff_exists.1 m2
          have hga := fun w hA => hGa T[k] hnm (some va) hva w hA
          clear hnm m1 m2 hva hGa hGb HN HM hKx hr4
          generalize T[k] = n at *
          go_wp2_with fail
          refine (hgb _ (hB.below hb0r)).out.mono ?_
          rintro e w5 ⟨rfl, hb5⟩
          go_wp2_with fail
          refine (hga _ (hA.below (below_chain hb0r hb5))).out.mono ?_
          rintro e w6 ⟨rfl, hb6⟩
          have hb46 := below_chain hbl (below_chain hb5 hb6)
          clear hgb hga hb5 hb6 hbl hb0r h1
          go_wp2_with fail
          refine (h2 _ _ rfl).out.mono ?_
          rintro e w7 ⟨rfl, hw7⟩
          have hb47 : Below w4.heap.size w4 w7 := by rw [← hw7]; exact balloc hb46 _
          clear h2 hb46 hw7
          go_wp2
          go_roundw
          case rel => exact ⟨k + 1, by omega, by go_num, hb47⟩
          case measure => simp [intOf]; omega
        · obtain rfl : k = T.length := by omega
          have hX5 := hX4.below hbl
          go_wp2_with fail
          refine (hKx _ _ _ hX5).out.mono ?_
          rintro e w5 ⟨rfl, hb5⟩
          have hb05 := below_chain hb0r hb5
          clear hKx hX5 hX4 hr4 hbl hb0r
          go_wp2
          go_ret
          exact ⟨rfl, hb05⟩
    · have c1 : (fault b == 0) = false := beq_eq_false_iff_ne.2 hf
      clear hmem hf h0 ha hx hma hea hmb heb
      generalize (applyRes a b).1 = X at *
      generalize fault b = q at *
      go_enter Try.func6, Try.ntmps6
      go_wp2_with fail
      refine (hL _).out.mono ?_
      rintro e w1 ⟨rfl, hb1⟩
      go_wp2_with fail
      refine (hP _ (hA.below hb1) (hB.below hb1)).out.mono ?_
      rintro e w2 ⟨D2, d2, rfl, hown2, hb2⟩
      have hb02 := below_chain hb1 hb2
      have hX2 := Row.ownE hown2.row
      clear hL hP hb1 hb2 hown2
      go_wp2_with fail
      refine (hKb _ (hB.below hb02)).out.mono ?_
      rintro e w3 ⟨rfl, hb3⟩
      have hb03 := below_chain hb02 hb3
      have hX3 := hX2.below hb3
      clear hKb hb02 hb3 hX2
      go_wp2_with fail
      refine (hKx _ _ _ hX3).out.mono ?_
      rintro e w4 ⟨rfl, hb4⟩
      have hb04 := below_chain hb03 hb4
      clear hKx hX3 hb03 hb4
      go_wp2
      go_ret
      exact ⟨rfl, hb04⟩
  · have c1 : ((applyRes a b).2 == 0) = false := beq_eq_false_iff_ne.2 h0
    rw [applyRes_bad a b h0] at hP
    clear h0 hma hea hmb heb hKb
    generalize (applyRes a b).2 = q at *
    go_enter Try.func6, Try.ntmps6
    go_wp2_with fail
    refine (hL _).out.mono ?_
    rintro e w1 ⟨rfl, hb1⟩
    go_wp2_with fail
    refine (hP _ (hA.below hb1) (hB.below hb1)).out.mono ?_
    rintro e w2 ⟨D2, d2, rfl, hown2, hb2⟩
    have hb02 := below_chain hb1 hb2
    clear hL hP hb1 hb2 hown2
    go_wp2
    go_ret
    exact ⟨rfl, hb02⟩

set_option maxRecDepth 100000 in
theorem changeApplies_lifted (os : Os) (started : os.Started) (H : Type) (enc : TypeId × Value → H) :
    ReturnsInHanded {} Try.checked os 6 .any (Rows.changeAppliesSpec.pre6 enc Try.prog Try.f6 Rows.changeAppliesRow.domain false) (Rows.changeAppliesSpec.post enc Try.prog Try.f6 false true false false) := by
  refine returnsInHanded_of_change (C := Try.checked) own started (by kernel_rfl) Try.func6
    (ChangeSpec.witness6 (enc := enc) (C := Try.checked) false ⟨#[], #[.slice none 0 0, .slice none 0 0], []⟩ 8 (by kernel_rfl) (by kernel_rfl) (by kernel_rfl) (by kernel_rfl)) ?_
  intro W base args ds gs before hval0 hW hcnd _
  have hval : ∀ (j : Nat) t v, Try.f6.params[j]? = some t → args[j]? = some v → Value.okWide Try.prog W .any base t v := hval0
  have hW' := hW
  obtain ⟨p, q, hA0, hV, rfl, hfz, hnd⟩ := hW
  have hA : DataW.TrodAll enc Try.prog W 0 (fun _ => true) true Try.f6.params.toList args.toList ds p := hA0
  rw [Try.params6] at hA hval
  obtain ⟨v0, vs0, d0, ds0, p0, q0, hargs, rfl, rfl, h0, r0⟩ := trodAll_cons hA
  obtain ⟨v1, vs1, d1, ds1, p1, q1, rfl, rfl, rfl, h1, r1⟩ := trodAll_cons r0
  obtain ⟨rfl, rfl, rfl⟩ := trodAll_nil r1
  obtain rfl : args = #[v0, v1] := by cases args; simp_all
  obtain ⟨rfl, rfl⟩ := trodVars_none hV
  obtain ⟨A0, c0, s0, rfl, hm0, hr0, hs0, hc0, -⟩ := arg_ents (hval 0 22 v0 rfl rfl) h0
  obtain ⟨A1, c1, s1, rfl, hm1, hr1, hs1, hc1, -⟩ := arg_ents (hval 1 22 v1 rfl rfl) h1
  refine (changeApplies_walk A0 A1 c0 c1 s0 s1 _ hm0 hs0 hm1 hs1 hr0 hr1).mono fun e W' ⟨he, hb⟩ => ?_
  subst he
  exact ⟨_, rfl, post_law laidOut (by decide +kernel) rfl Try.underlying4 (by kernel_rfl) hW' rfl hb⟩

/-- The statement. -/
theorem changeApplies_said : Rows.ChangeAppliesSaid :=
  OpenClaim.holds_of_wide 6 Try.f6 rfl rfl rfl rfl rfl rfl rfl ⟨rfl, rfl, rfl, rfl, rfl⟩ rfl rfl rfl rfl rfl (by kernel_rfl) Try.func6 (by kernel_rfl)
    (of_decide_eq_true (by kernel_rfl)) (by unfold Func.isWrapper; first | (rw [if_pos (by decide +kernel)]; kernel_rfl) | (rw [if_neg (by decide +kernel)]; exact ⟨rfl, rfl⟩))
    (fun os started H enc _ => changeApplies_lifted os started H enc)
#print axioms changeApplies_said
end Go.Proofs.Ytmmmolbejfdamaa
