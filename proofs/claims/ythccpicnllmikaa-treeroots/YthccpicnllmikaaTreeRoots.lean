/- TreeRoots: for arbitrary arguments, Leaf, At and Root return what the reference returns. -/
import Derived.Test.YthccpicnllmikaaTreeLeafs
import Derived.Test.YthccpicnllmikaaTreeAt
import Derived.Test.YthccpicnllmikaaRefFault
import Derived.Test.YthccpicnllmikaaPrefix
import Derived.Test.YthccpicnllmikaaArgs
import Derived.Test.YthccpicnllmikaaLaw
namespace Go.Proofs.Ythccpicnllmikaa
open Go.ChangeShapes Go.WideShapes Go.ChangeAt Go.RowKit

set_option maxRecDepth 100000 in
set_option maxHeartbeats 1000000 in
theorem roots_fault (A : Option Addr) (c : Nat) (es : List Ent) (q : Bytes) (w : World) (hm : es.length ≤ maxLen) (hes : ∀ x ∈ es, x.1.length ≤ maxLen ∧ x.2.length ≤ maxLen) (hq : q.length ≤ maxLen) (hA : Row w A (encells es)) (r : Int) (hr : fault es = r) (h0 : r ≠ 0) :
    Calls Try.prog 4 #[.slice A es.length c, .string (S q)] w fun e w' => e = .returned (.bool true) ∧ Below w.heap.size w w' := by
  have hL := fun (w : World) hA => Lib.hid (treeLeaf_fault A c es w hm hes hA r hr h0)
  have hT := fun (w : World) hA => Lib.hid (treeAt_no A c es q w hm hes hq hA r (by rw [atErr, if_neg (by rw [hr]; exact h0)]; exact hr) h0)
  have hR := fun (w : World) hA => Lib.hid (treeRoot_no A c es w hm hes hA r hr h0)
  have hF := fun (w : World) hA => Lib.hid (refFault A c es w hm hes hA r hr)
  have c1 : (r == 0) = false := beq_eq_false_iff_ne.2 h0
  have c2 : (r != 0) = true := by rw [bne, c1]; rfl
  clear hm hes hq hr h0
  go_enter Try.func4, Try.ntmps4
  go_wp2_with fail
  refine (hL _ hA).out.mono ?_
  rintro e w1 ⟨rfl, hb1⟩
  go_wp2_with fail
  refine (hT _ (hA.below hb1)).out.mono ?_
  rintro e w2 ⟨rfl, hb2⟩
  have hb02 := below_chain hb1 hb2
  go_wp2_with fail
  refine (hR _ (hA.below hb02)).out.mono ?_
  rintro e w3 ⟨rfl, hb3⟩
  have hb03 := below_chain hb02 hb3
  go_wp2_with fail
  refine (hF _ (hA.below hb03)).out.mono ?_
  rintro e w4 ⟨rfl, hb4⟩
  go_wp2
  go_ret
  exact ⟨rfl, below_chain hb03 hb4⟩

/-- The first name, if there is one. -/
def firstN : List Ent → Bytes
  | [] => []
  | x :: _ => x.1
def oneTo (es : List Ent) (k : Nat) : Bool := (es.take k).all fun y => Bin.of y.1 == Bin.of (firstN es)
theorem oneTo_succ (es : List Ent) (k : Nat) (h : k < es.length) : oneTo es (k + 1) = (oneTo es k && Bin.of es[k].1 == Bin.of (firstN es)) := by
  unfold oneTo
  rw [List.take_succ_eq_append_getElem h, List.all_append, List.all_cons, List.all_nil, Bool.and_true]
theorem oneTo_all (es : List Ent) (k : Nat) (h : es.length ≤ k) : oneTo es k = onePath es := by
  unfold oneTo
  rw [List.take_of_length_le h]
  cases es with
  | nil => rfl
  | cons x es => rw [List.all_cons, firstN, beq_self_eq_true, Bool.true_and]; rfl
theorem firstN_get (es : List Ent) (h : 0 < es.length) : es[0].1 = firstN es := by
  cases es with
  | nil => simp at h
  | cons x es => rfl

theorem refPath' (l : Bytes) (w : World) (hl : l.length ≤ maxLen) :
    Calls Try.prog 22 #[.string (S l)] w fun e w' => e = .returned (.string (S (Bin.of l))) ∧ w' = w :=
  (refPath l w hl).mono fun _ _ h => ⟨h.1, h.2.symm⟩

set_option maxRecDepth 100000 in
set_option maxHeartbeats 8000000 in
theorem roots_good (A : Option Addr) (c : Nat) (es : List Ent) (q : Bytes) (w : World) (hq : q.length ≤ maxLen) (hA : Row w A (encells es)) (hg : Good es) :
    Calls Try.prog 4 #[.slice A es.length c, .string (S q)] w fun e w' => e = .returned (.bool true) ∧ Below w.heap.size w w' := by
  obtain ⟨hm, hes⟩ := small_of_good hg
  obtain ⟨s, hs⟩ : ∃ s, s = if onePath es = true then leafOf es else [] := ⟨_, rfl⟩
  obtain ⟨r, hr⟩ : ∃ r : Int, r = if onePath es = true then 0 else 3 := ⟨_, rfl⟩
  have hL := fun (w : World) hA => Lib.hid (treeLeaf_good A c es w hg hA _ rfl s r hs hr)
  obtain ⟨x, rf, hx⟩ : ∃ (x : Nat) (rf : Int), (goodPre q = true ∧ x = prefMark es q ∧ rf = 0) ∨ (goodPre q = false ∧ x = 0 ∧ rf = 3) := by
    cases h : goodPre q with
    | true => exact ⟨_, _, .inl ⟨rfl, rfl, rfl⟩⟩
    | false => exact ⟨_, _, .inr ⟨rfl, rfl, rfl⟩⟩
  have hT : ∀ w : World, Row w A (encells es) → Hid (Calls Try.prog 20 #[.slice A es.length c, .string (S q)] w fun e w' => e = .returned (.tuple #[.int .u64 (x : Int), .int .i64 rf]) ∧ Below w.heap.size w w') := by
    intro w hA
    show Calls _ _ _ _ _
    rcases hx with ⟨h1, rfl, rfl⟩ | ⟨h1, rfl, rfl⟩
    · exact treeAt_yes A c es q w hg h1 hA _ rfl
    · exact treeAt_no A c es q w hm hes hq hA 3 (by rw [atErr, if_pos ((fault_ok es).2 hg), h1, if_neg (by simp)]) (by decide)
  have hR := fun (w : World) hA => Lib.hid (treeRoot_yes A c es w hg hA _ rfl)
  have hF := fun (w : World) hA => Lib.hid (refFault A c es w hm hes hA 0 ((fault_ok es).2 hg))
  have hLS := fun (w : World) hA => Lib.hid (refLeaf A c es w (by have := hg.len; omega) (good_5 hg) hA)
  have hP0 := fun (w : World) hA => Lib.hid (refPrefix A c es [] w (by have := hg.len; omega) (good_5 hg) (by simp) hA _ rfl)
  have hGP := fun w => Lib.hid (goodPrefix q w hq (goodPre q) rfl)
  have hPq : goodPre q = true → ∀ (w : World), Row w A (encells es) → Hid (Calls Try.prog 24 #[.slice A es.length c, .string (S q)] w fun e w' => e = .returned (.int .u64 (prefMark es q : Int)) ∧ Below w.heap.size w w') := fun h w hA => refPrefix A c es q w (by have := hg.len; omega) (good_5 hg) (goodPre_len h) hA _ rfl
  have HN : Hid (∀ y ∈ es, y.1.length ≤ maxLen) := fun y hy => (hes y hy).1
  have HSR : Hid (s = (if onePath es = true then leafOf es else []) ∧ r = if onePath es = true then 0 else 3) := ⟨hs, hr⟩
  have HX := Lib.hid hx
  have HPQ := Lib.hid hPq
  have hl := hg.len
  generalize prefMark es [] = x0 at *
  clear hx hs hr hPq hg hm hes hq
  go_enter Try.func4, Try.ntmps4
  go_wp2_with fail
  refine (hL _ hA).out.mono ?_
  rintro e w1 ⟨rfl, hb1⟩
  go_wp2_with fail
  refine (hT _ (hA.below hb1)).out.mono ?_
  rintro e w2 ⟨rfl, hb2⟩
  have hb02 := below_chain hb1 hb2
  go_wp2_with fail
  refine (hR _ (hA.below hb02)).out.mono ?_
  rintro e w3 ⟨rfl, hb3⟩
  have hb03 := below_chain hb02 hb3
  go_wp2_with fail
  refine (hF _ (hA.below hb03)).out.mono ?_
  rintro e w4 ⟨rfl, hb4⟩
  have hb04 := below_chain hb03 hb4
  clear hL hT hR hF hb1 hb2 hb3 hb4 hb02 hb03
  go_wp2
  go_loopw [12, 62] (fun o i wr => ∃ k : Nat, k ≤ es.length ∧ i = .int .i64 k ∧ o = .bool (oneTo es k) ∧ Below w.heap.size w wr) (fun _ i _ => es.length - (intOf i).toNat)
  case atStart => exact ⟨0, Nat.zero_le _, rfl, rfl, hb04⟩
  case round =>
    obtain ⟨k, hk, rfl, rfl, hbl⟩ := hrel
    have hsz := hbl.size
    by_cases hlt : k < es.length
    · obtain ⟨g, off, hAe, h1, h2⟩ := (hA.below hbl).ent k hlt
      obtain ⟨g', off', hAe', h3, -⟩ := (hA.below hbl).ent 0 (by omega)
      rw [hAe] at hAe'
      injection hAe' with e1
      injection e1 with e1 e2
      subst e1; subst e2
      rw [Nat.zero_mul, Nat.add_zero, firstN_get es (by omega)] at h3
      have hi0 : (0 : Int) ≤ (k : Int) := by omega
      have hi1 : (k : Int) < (es.length : Int) := by omega
      have hi2 : (0 : Int) < (es.length : Int) := by omega
      have hp1 := fun w => Lib.hid (refPath' es[k].1 w (HN.out _ (List.getElem_mem hlt)))
      have hp2 := fun w => Lib.hid (refPath' (firstN es) w (by rw [← firstN_get es (by omega)]; exact HN.out _ (List.getElem_mem _)))
      have hstep := oneTo_succ es k hlt
      clear HSR HX HPQ hLS hP0 hGP
      generalize Bin.of es[k].1 = pk at *
      generalize Bin.of (firstN es) = p0 at *
      generalize firstN es = f at *
      generalize es[k].1 = a at *
      generalize es[k].2 = b at *
      have k1 : (wr.alloc (.cells #[.string (S a), .string (S b)] 35)).cell? ⟨wr.heap.size, 0, none⟩ = some (.string (S a)) := by rw [World.cell?_alloc_new]; rfl
      have k3 : (wr.alloc (.cells #[.string (S a), .string (S b)] 35)).cell? ⟨g, off, none⟩ = some (.string (S f)) := by rw [World.cell?_alloc_lt _ _ _ (World.block_lt_of_cell? _ _ h3)]; exact h3
      have hbw : Below w.heap.size w (wr.alloc (.cells #[.string (S a), .string (S b)] 35)) := hbl.alloc hsz _
      subst hAe
      cases h12 : oneTo es k with
      | true =>
        rw [h12, Bool.true_and] at hstep
        clear h12 hA
        have hcase : (pk == p0) = true ∨ (pk == p0) = false := by cases (pk == p0) <;> simp
        go_wp2
        generalize wr.alloc (.cells #[.string (S a), .string (S b)] 35) = wn at *
        rcases hcase with hc0 | hc0 <;> rw [hc0] at hstep <;>
        · go_quiet (first | (go_at_call_of 22 a; refine Calls.quiet_of_same ((hp1 _).out)) | (go_at_call_of 22 f; refine Calls.quiet_of_same ((hp2 _).out)))
          go_wp2
          go_roundw
          case rel => exact ⟨k + 1, by omega, by go_num, by rw [hstep], below_drewN hbw _⟩
          case measure => simp [intOf]; omega
      | false =>
        rw [h12, Bool.false_and] at hstep
        clear h12 hA
        go_wp2
        generalize wr.alloc (.cells #[.string (S a), .string (S b)] 35) = wn at *
        go_quiet (fail)
        go_wp2
        go_roundw
        case rel => exact ⟨k + 1, by omega, by go_num, by rw [hstep], below_drewN hbw _⟩
        case measure => simp [intOf]; omega
    · have hA' := hA.below hbl
      rw [oneTo_all es k (by omega)]
      cases hop : onePath es with
      | true =>
        have hse : s = leafOf es := HSR.out.1.trans (if_pos hop)
        have hre0 : r = 0 := HSR.out.2.trans (if_pos hop)
        subst hse; subst hre0
        generalize leafOf es = s at *
        rcases HX.out with ⟨hq1, hxe, hre⟩ | ⟨hq1, hxe, hre⟩
        · have hPq := HPQ.out hq1
          rw [hq1] at hGP
          subst hxe; subst hre
          generalize prefMark es q = y at *
          clear hop HX HPQ HSR HN
          go_wp2_with fail
          refine (hLS _ hA').out.mono ?_
          rintro e w5 ⟨rfl, hb5⟩
          have hb05 := below_chain hbl hb5
          go_wp2_with fail
          refine (hP0 _ (hA.below hb05)).out.mono ?_
          rintro e w6 ⟨rfl, hb6⟩
          have hb06 := below_chain hb05 hb6
          go_wp2_with fail
          refine (hGP _).out.mono ?_
          rintro e _ ⟨rfl, rfl⟩
          go_wp2_with fail
          refine (hPq _ (hA.below hb06)).out.mono ?_
          rintro e w8 ⟨rfl, hb8⟩
          go_wp2
          go_ret
          exact ⟨rfl, below_chain hb06 hb8⟩
        · rw [hq1] at hGP
          subst hxe; subst hre
          clear hop HX HPQ HSR HN
          go_wp2_with fail
          refine (hLS _ hA').out.mono ?_
          rintro e w5 ⟨rfl, hb5⟩
          have hb05 := below_chain hbl hb5
          go_wp2_with fail
          refine (hP0 _ (hA.below hb05)).out.mono ?_
          rintro e w6 ⟨rfl, hb6⟩
          have hb06 := below_chain hb05 hb6
          go_wp2_with fail
          refine (hGP _).out.mono ?_
          rintro e _ ⟨rfl, rfl⟩
          go_wp2
          go_ret
          exact ⟨rfl, hb06⟩
      | false =>
        have hse : s = [] := HSR.out.1.trans (if_neg (by rw [hop]; simp))
        have hre0 : r = 3 := HSR.out.2.trans (if_neg (by rw [hop]; simp))
        subst hse; subst hre0
        rcases HX.out with ⟨hq1, hxe, hre⟩ | ⟨hq1, hxe, hre⟩
        · have hPq := HPQ.out hq1
          rw [hq1] at hGP
          subst hxe; subst hre
          generalize prefMark es q = y at *
          clear hop HX HPQ HSR HN
          go_wp2_with fail
          refine (hP0 _ hA').out.mono ?_
          rintro e w6 ⟨rfl, hb6⟩
          have hb06 := below_chain hbl hb6
          go_wp2_with fail
          refine (hGP _).out.mono ?_
          rintro e _ ⟨rfl, rfl⟩
          go_wp2_with fail
          refine (hPq _ (hA.below hb06)).out.mono ?_
          rintro e w8 ⟨rfl, hb8⟩
          go_wp2
          go_ret
          exact ⟨rfl, below_chain hb06 hb8⟩
        · rw [hq1] at hGP
          subst hxe; subst hre
          clear hop HX HPQ HSR HN
          go_wp2_with fail
          refine (hP0 _ hA').out.mono ?_
          rintro e w6 ⟨rfl, hb6⟩
          have hb06 := below_chain hbl hb6
          go_wp2_with fail
          refine (hGP _).out.mono ?_
          rintro e _ ⟨rfl, rfl⟩
          go_wp2
          go_ret
          exact ⟨rfl, hb06⟩

theorem treeRoots_walk (A : Option Addr) (c : Nat) (es : List Ent) (q : Bytes) (w : World) (hm : es.length ≤ maxLen) (hes : ∀ x ∈ es, x.1.length ≤ maxLen ∧ x.2.length ≤ maxLen) (hq : q.length ≤ maxLen) (hA : Row w A (encells es)) :
    Calls Try.prog 4 #[.slice A es.length c, .string (S q)] w fun e w' => e = .returned (.bool true) ∧ Below w.heap.size w w' := by
  by_cases hf : fault es = 0
  · exact roots_good A c es q w hq hA ((fault_ok es).1 hf)
  · exact roots_fault A c es q w hm hes hq hA _ rfl hf

set_option maxRecDepth 100000 in
theorem treeRoots_lifted (os : Os) (started : os.Started) (H : Type) (enc : TypeId × Value → H) :
    ReturnsInHanded {} Try.checked os 4 .any (Rows.treeRootsSpec.pre6 enc Try.prog Try.f4 Rows.treeRootsRow.domain false) (Rows.treeRootsSpec.post enc Try.prog Try.f4 false true false false) := by
  refine returnsInHanded_of_change (C := Try.checked) own started (by kernel_rfl) Try.func4
    (ChangeSpec.witness6 (enc := enc) (C := Try.checked) false ⟨#[], #[.slice none 0 0, .string ⟨#[]⟩], []⟩ 8 (by kernel_rfl) (by kernel_rfl) (by kernel_rfl) (by kernel_rfl)) ?_
  intro W base args ds gs before hval0 hW hcnd _
  have hval : ∀ (j : Nat) t v, Try.f4.params[j]? = some t → args[j]? = some v → Value.okWide Try.prog W .any base t v := hval0
  have hW' := hW
  obtain ⟨p, q, hA0, hV, rfl, hfz, hnd⟩ := hW
  have hA : DataW.TrodAll enc Try.prog W 0 (fun _ => true) true Try.f4.params.toList args.toList ds p := hA0
  rw [Try.params4] at hA hval
  obtain ⟨v0, vs0, d0, ds0, p0, q0, hargs, rfl, rfl, h0, r0⟩ := trodAll_cons hA
  obtain ⟨v1, vs1, d1, ds1, p1, q1, rfl, rfl, rfl, h1, r1⟩ := trodAll_cons r0
  obtain ⟨rfl, rfl, rfl⟩ := trodAll_nil r1
  obtain rfl : args = #[v0, v1] := by cases args; simp_all
  obtain ⟨rfl, rfl⟩ := trodVars_none hV
  obtain ⟨A0, c0, s0, rfl, hm0, hr0, hs0, hc0, -⟩ := arg_ents (hval 0 22 v0 rfl rfl) h0
  obtain ⟨l1, rfl, hl1⟩ := arg_str (hval 1 9 v1 rfl rfl) h1
  refine (treeRoots_walk A0 c0 s0 l1 W hm0 hs0 hl1 hr0).mono fun e W' ⟨he, hb⟩ => ?_
  subst he
  exact ⟨_, rfl, post_law laidOut (by decide +kernel) rfl Try.underlying4 (by kernel_rfl) hW' rfl hb⟩

/-- The statement. -/
theorem treeRoots_said : Rows.TreeRootsSaid :=
  OpenClaim.holds_of_wide 4 Try.f4 rfl rfl rfl rfl rfl rfl rfl ⟨rfl, rfl, rfl, rfl, rfl⟩ rfl rfl rfl rfl rfl (by kernel_rfl) Try.func4 (by kernel_rfl)
    (of_decide_eq_true (by kernel_rfl)) (by unfold Func.isWrapper; first | (rw [if_pos (by decide +kernel)]; kernel_rfl) | (rw [if_neg (by decide +kernel)]; exact ⟨rfl, rfl⟩))
    (fun os started H enc _ => treeRoots_lifted os started H enc)
#print axioms treeRoots_said
end Go.Proofs.Ythccpicnllmikaa
