/- The law ChangeFinds returns true: what is found by looking differs; what differs and is not found lies under a clash. No conditions. -/
import Derived.Test.YtmmmolbejfdamaaChangeLook
import Derived.Test.YtmmmolbejfdamaaBeneath
import Derived.Test.YtmmmolbejfdamaaProofMake
import Derived.Test.YtmmmolbejfdamaaArgs
import Derived.Test.YtmmmolbejfdamaaLaw
namespace Go.Proofs.Ytmmmolbejfdamaa
set_option maxRecDepth 100000
open Go.ChangeShapes Go.WideShapes Go.ChangeAt Go.RowKit

set_option maxHeartbeats 1000000 in
theorem cf_no (A B : Option Addr) (c d : Nat) (a b : List Ent) (w : World) (hma : a.length ≤ maxLen) (hea : ∀ x ∈ a, x.1.length ≤ maxLen ∧ x.2.length ≤ maxLen) (hmb : b.length ≤ maxLen) (heb : ∀ x ∈ b, x.1.length ≤ maxLen ∧ x.2.length ≤ maxLen) (hA : Row w A (encells a)) (hB : Row w B (encells b)) (h0 : diffErr a b ≠ 0) :
    Calls Try.prog 4 #[.slice A a.length c, .slice B b.length d] w fun e w' => e = .returned (.bool true) ∧ Below w.heap.size w w' := by
  have hL := fun w => Lib.hid (changes w)
  have hD := fun (w : World) hA hB => Lib.hid (changeDiff_no A B c d a b w hma hea hmb heb hA hB _ rfl h0)
  have hK := fun (w : World) hA hB => Lib.hid (changeLook_no A B c d a b w hma hea hmb heb hA hB _ rfl h0)
  have c1 : (diffErr a b == 0) = false := beq_eq_false_iff_ne.2 h0
  have c1b : (diffErr a b != 0) = true := by rw [bne, c1]; rfl
  clear h0 hma hea hmb heb
  generalize diffErr a b = r at *
  go_enter Try.func4, Try.ntmps4
  go_wp2_with fail
  refine (hL _).out.mono ?_
  rintro e w1 ⟨rfl, hb1⟩
  go_wp2_with fail
  refine (hD _ (hA.below hb1) (hB.below hb1)).out.mono ?_
  rintro e w2 ⟨rfl, hb2⟩
  have hb02 := below_chain hb1 hb2
  clear hL hD hb1 hb2
  go_wp2_with fail
  refine (hK _ (hA.below hb02) (hB.below hb02)).out.mono ?_
  rintro e w3 ⟨rfl, hb3⟩
  have hb03 := below_chain hb02 hb3
  clear hK hb02 hb3 hA hB
  go_wp2
  all_goals
    go_ret
    exact ⟨rfl, hb03⟩

set_option maxHeartbeats 4000000 in
theorem cf_yes (A B : Option Addr) (c d : Nat) (a b : List Ent) (w : World) (ha : Good a) (hb : Good b) (hA : Row w A (encells a)) (hB : Row w B (encells b)) :
    Calls Try.prog 4 #[.slice A a.length c, .slice B b.length d] w fun e w' => e = .returned (.bool true) ∧ Below w.heap.size w w' := by
  have hL := fun w => Lib.hid (changes w)
  have hD := fun (w : World) hA hB => Lib.hid (changeDiff_yes A B c d a b w ha hb hA hB)
  have hK := fun (w : World) hA hB => Lib.hid (changeLook_yes A B c d a b w ha hb hA hB)
  have hRa := fun (w : World) hA => Lib.hid (treeRoot_yes A c a w ha hA _ rfl)
  have hRb := fun (w : World) hB => Lib.hid (treeRoot_yes B d b w hb hB _ rfl)
  have hG := fun w g hg => Lib.hid (goods2 0 0 w g 24 hg true rfl)
  have hdl := differ_le a b
  have hla := ha.len
  have hlb := hb.len
  have hfl : (foundAt a b []).length ≤ 48 * visitsAt a b [] := Nat.le_trans (foundAt_le a b []) (Nat.mul_le_mul_right _ (by omega))
  have hvl := visitsAt_le a b [] 16 rfl
  have hvp : 1 ≤ visitsAt a b [] := visits_pos a b _ _
  have HV : Hid ((((visitsAt a b [] : Int) == 1) != ((prefMark a [] : Int) == (prefMark b [] : Int))) = false) := by
    show _ = _
    by_cases he : prefMark a [] = prefMark b []
    · rw [(visitsAt_same a b [] he).1, he]
      simp
    · have h1 := (visitsAt_more a b [] he (by simp)).1
      have h2 := visits_pos a b (16 - ([] ++ [48] : Bytes).length) ([] ++ [48])
      have h3 : ((visitsAt a b [] : Int) == 1) = false := beq_eq_false_iff_ne.2 (by
        intro e
        have h4 : 1 ≤ visitsAt a b ([] ++ [48]) := h2
        omega)
      have h5 : ((prefMark a [] : Int) == (prefMark b [] : Int)) = false := beq_eq_false_iff_ne.2 (by omega)
      rw [h3, h5]
      rfl
  have HI : Hid (∀ n ∈ foundAt a b [], n ∈ differ a b) := fun n hn => foundAt_in a b [] n hn
  have HN := Lib.hid (differ_names ha hb)
  have HW : Hid (∀ n, n ∈ differ a b → n ∉ foundAt a b [] → ∃ j, j ≤ 16 ∧ alikeB (climb n (at16 a (Bin.of n)) (sidesOf a n) j) (climb n (at16 b (Bin.of n)) (sidesOf b n) j) = true) := fun n h1 h2 => beneath_way ha hb (differ_names ha hb n h1) h1 h2
  have hMa := fun (n : Bytes) hn (w : World) hA => Lib.hid (proofMake_yes A c a n w ha hn hA)
  have hMb := fun (n : Bytes) hn (w : World) hB => Lib.hid (proofMake_yes B d b n w hb hn hB)
  have hBe := fun (n : Bytes) (hn : Bin.name n = true) hal (D E D' E' : Option Addr) (x y x' y' : Nat) (w : World) hD hE hD' hE' => Lib.hid (beneath n (at16 a (Bin.of n)) (at16 b (Bin.of n)) (sidesOf a n) (sidesOf b n) D E D' E' x y x' y' w (proofOf_good ha hn) (proofOf_good hb hn) hD hE hD' hE' hal)
  obtain ⟨nv, hnv⟩ : ∃ n, visitsAt a b [] = n := ⟨_, rfl⟩
  obtain ⟨F, hF⟩ : ∃ T, foundAt a b [] = T := ⟨_, rfl⟩
  obtain ⟨T, hT⟩ : ∃ T, differ a b = T := ⟨_, rfl⟩
  rw [hnv] at hK hfl hvl hvp HV
  rw [hF] at hK hfl HI HW
  rw [hT] at hD HI HN HW hdl
  clear hnv hF hT ha hb
  have hT48 : T.length ≤ 1000 := by omega
  have hF48 : F.length ≤ 100000000 := by omega
  have hcT := fun (x : Bytes) (q : Bool) hq (D : Option Addr) (e : Nat) (w : World) hD => Lib.hid (containsStrs D e T x w (by unfold maxLen; omega) q hq hD)
  have hcF := fun (x : Bytes) (q : Bool) hq (D : Option Addr) (e : Nat) (w : World) hD => Lib.hid (containsStrs D e F x w (by unfold maxLen; omega) q hq hD)
  have cv1 : decide ((nv : Int) < 1) = false := decide_eq_false (by omega)
  have cv2 : (((nv : Int) == 1) == ((prefMark a [] : Int) == (prefMark b [] : Int))) = true := by
    have := HV.out
    rw [bne] at this
    simpa using this
  clear hfl hvl hvp hdl hla hlb HV
  generalize prefMark a [] = ra at *
  generalize prefMark b [] = rb at *
  go_enter Try.func4, Try.ntmps4
  go_wp2_with fail
  refine (hL _).out.mono ?_
  rintro e w1 ⟨rfl, hb1⟩
  go_wp2_with fail
  refine (hD _ (hA.below hb1) (hB.below hb1)).out.mono ?_
  rintro e w2 ⟨D2, d2, rfl, hr2, hb2⟩
  have hb02 := below_chain hb1 hb2
  clear hL hD hb1 hb2
  go_wp2_with fail
  refine (hK _ (hA.below hb02) (hB.below hb02)).out.mono ?_
  rintro e w3 ⟨D3, d3, rfl, hr3, hb3⟩
  have hb03 := below_chain hb02 hb3
  have hr23 := hr2.below hb3
  clear hK hb02 hb3 hr2
  go_wp2_with fail
  refine (hRa _ (hA.below hb03)).out.mono ?_
  rintro e w4 ⟨rfl, hb4⟩
  have hb04 := below_chain hb03 hb4
  go_wp2_with fail
  refine (hRb _ (hB.below hb04)).out.mono ?_
  rintro e w5 ⟨rfl, hb5⟩
  have hb05 := below_chain hb04 hb5
  have hb35 := below_chain hb4 hb5
  have hr25 := hr23.below hb35
  have hr35 := hr3.below hb35
  clear hRa hRb hb03 hb4 hb04 hb5 hb35 hr23 hr3
  go_wp2_with fail
  refine (hG _ _ rfl).out.mono ?_
  rintro e w6 ⟨rfl, hw6⟩
  have hb6 : Below w5.heap.size w5 w6 := by rw [← hw6]; exact balloc (Below.refl _ _) _
  have hb06 := below_chain hb05 hb6
  have hr26 := hr25.below hb6
  have hr36 := hr35.below hb6
  clear hw6 hb05 hb6 hr25 hr35
  go_wp2_with fail
  go_loopw [87] (fun i wr => ∃ k : Nat, k ≤ F.length ∧ i = .int .i64 k ∧ w6 = wr) (fun i _ => F.length - (intOf i).toNat)
  case atStart => exact ⟨0, Nat.zero_le _, rfl, rfl⟩
  case round =>
    obtain ⟨k, hk, rfl, rfl⟩ := hrel
    by_cases hlt : k < F.length
    · obtain ⟨g, off, rfl, q1⟩ := hr36.strC k hlt
      have hi0 : (0 : Int) ≤ (k : Int) := by omega
      have hi1 : (k : Int) < (F.length : Int) := by omega
      have hct := fun D e w hD => hcT F[k] true (decide_eq_true (HI.out _ (List.getElem_mem hlt))) D e w hD
      clear hcT hcF HI HN HW hMa hMb hBe hG
      generalize F[k] = n at *
      go_wp2_with fail
      refine (hct _ _ _ hr26).out.mono ?_
      rintro e w7 ⟨rfl, hw7⟩
      subst hw7
      clear hct
      go_wp2
      go_roundw
      case rel => exact ⟨k + 1, by omega, by go_num, by first | rfl | trivial⟩
      case measure => simp [intOf]; omega
    · obtain rfl : k = F.length := by omega
      clear hlt hk
      go_wp2_with fail
      go_loopw [98] (fun i wr => ∃ k : Nat, k ≤ T.length ∧ i = .int .i64 k ∧ Below w6.heap.size w6 wr) (fun i _ => T.length - (intOf i).toNat)
      case atStart => exact ⟨0, Nat.zero_le _, rfl, Below.refl _ _⟩
      case round =>
        obtain ⟨k, hk, rfl, hbl⟩ := hrel
        have hb0r := below_chain hb06 hbl
        by_cases hlt : k < T.length
        · obtain ⟨g, off, rfl, q1⟩ := (hr26.below hbl).strC k hlt
          have hi0 : (0 : Int) ≤ (k : Int) := by omega
          have hi1 : (k : Int) < (T.length : Int) := by omega
          have hmem := List.getElem_mem hlt
          have hnm := HN.out _ hmem
          by_cases hin : T[k] ∈ F
          · have hcf := fun D e w hD => hcF T[k] true (decide_eq_true hin) D e w hD
            clear hcT hcF HI HN HW hMa hMb hBe hG hmem hnm hin
            generalize T[k] = n at *
            go_wp2_with fail
            refine (hcf _ _ _ (hr36.below hbl)).out.mono ?_
            rintro e w7 ⟨rfl, hw7⟩
            subst hw7
            clear hcf
            go_wp2
            go_roundw
            case rel => exact ⟨k + 1, by omega, by go_num, hbl⟩
            case measure => simp [intOf]; omega
          · have hcf := fun D e w hD => hcF T[k] false (decide_eq_false hin) D e w hD
            have hal := HW.out _ hmem hin
            have hma := fun w hA => hMa T[k] hnm w hA
            have hmb := fun w hB => hMb T[k] hnm w hB
            have hbe := hBe T[k] hnm hal
            clear hcT hcF HI HN HW hMa hMb hBe hmem hnm hin hal
            generalize T[k] = n at *
            generalize at16 a (Bin.of n) = La at *
            generalize at16 b (Bin.of n) = Lb at *
            generalize sidesOf a n = Ma at *
            generalize sidesOf b n = Mb at *
            go_wp2_with fail
            refine (hcf _ _ _ (hr36.below hbl)).out.mono ?_
            rintro e w7 ⟨rfl, hw7⟩
            subst hw7
            clear hcf
            go_wp2_with fail
            refine (hma _ (hA.below hb0r)).out.mono ?_
            rintro e w8 ⟨D8, d8, E8, f8, rfl, hd8, hD8, hE8, hb8⟩
            have hb9 := balloc hb8 (.cells #[.string (S n), .slice D8 La.length d8, .slice E8 Ma.length f8] 53)
            have hx9 := PBox.new w8 n D8 E8 La.length d8 Ma.length f8 53
            have hD9 := hD8.alloc (.cells #[.string (S n), .slice D8 La.length d8, .slice E8 Ma.length f8] 53)
            have hE9 := hE8.alloc (.cells #[.string (S n), .slice D8 La.length d8, .slice E8 Ma.length f8] 53)
            have hb09 := below_chain hb0r hb9
            clear hma hb8 hD8 hE8
            go_wp2_with fail
            refine (hmb _ (hB.below hb09)).out.mono ?_
            rintro e w10 ⟨D10, d10, E10, f10, rfl, hd10, hD10, hE10, hb10⟩
            have hb11 := balloc hb10 (.cells #[.string (S n), .slice D10 Lb.length d10, .slice E10 Mb.length f10] 53)
            have hx11 := hx9.below hb11
            have hy11 := PBox.new w10 n D10 E10 Lb.length d10 Mb.length f10 53
            have hD11 := hD9.below hb11
            have hE11 := hE9.below hb11
            have hF11 := hD10.alloc (.cells #[.string (S n), .slice D10 Lb.length d10, .slice E10 Mb.length f10] 53)
            have hG11 := hE10.alloc (.cells #[.string (S n), .slice D10 Lb.length d10, .slice E10 Mb.length f10] 53)
            have hbl11 := below_chain (below_chain hbl hb9) hb11
            clear hmb hb10 hD10 hE10 hD9 hE9 hx9 hb09 hb9
            go_wp2_with fail
            refine (hG (w10.alloc (.cells #[.string (S n), .slice D10 Lb.length d10, .slice E10 Mb.length f10] 53)) (w10.heap.size + 1) (by simp)).out.mono ?_
            rintro e w12 ⟨rfl, hw12⟩
            have hb12 : Below (w10.alloc (.cells #[.string (S n), .slice D10 Lb.length d10, .slice E10 Mb.length f10] 53)).heap.size (w10.alloc (.cells #[.string (S n), .slice D10 Lb.length d10, .slice E10 Mb.length f10] 53)) w12 := by rw [← hw12]; exact balloc (Below.refl _ _) _
            obtain ⟨x0, x1, x2⟩ := hx11.below hb12
            obtain ⟨y0, y1, y2⟩ := hy11.below hb12
            have hbl12 := below_chain hbl11 hb12
            have hD12 := hD11.below hb12
            have hE12 := hE11.below hb12
            have hF12 := hF11.below hb12
            have hG12 := hG11.below hb12
            clear hw12 hb12 hx11 hy11 hbl11 hD11 hE11 hF11 hG11 hb11
            go_wp2_with fail
            refine (hbe _ _ _ _ _ _ _ _ _ hD12 hE12 hF12 hG12).out.mono ?_
            rintro e w13 ⟨rfl, hb13⟩
            have hbl13 := below_chain hbl12 hb13
            clear hbe hb13 hbl12 x0 x1 x2 y0 y1 y2 hD12 hE12 hF12 hG12
            go_wp2
            go_roundw
            case rel => exact ⟨k + 1, by omega, by go_num, hbl13⟩
            case measure => simp [intOf]; omega
        · obtain rfl : k = T.length := by omega
          go_wp2
          go_ret
          exact ⟨rfl, hb0r⟩
theorem changeFinds_walk (A B : Option Addr) (c d : Nat) (a b : List Ent) (w : World) (hma : a.length ≤ maxLen) (hea : ∀ x ∈ a, x.1.length ≤ maxLen ∧ x.2.length ≤ maxLen) (hmb : b.length ≤ maxLen) (heb : ∀ x ∈ b, x.1.length ≤ maxLen ∧ x.2.length ≤ maxLen) (hA : Row w A (encells a)) (hB : Row w B (encells b)) :
    Calls Try.prog 4 #[.slice A a.length c, .slice B b.length d] w fun e w' => e = .returned (.bool true) ∧ Below w.heap.size w w' := by
  by_cases h : diffErr a b = 0
  · obtain ⟨ha, hb⟩ := (diffErr_ok a b).1 h
    exact cf_yes A B c d a b w ha hb hA hB
  · exact cf_no A B c d a b w hma hea hmb heb hA hB h
set_option maxRecDepth 100000 in
theorem changeFinds_lifted (os : Os) (started : os.Started) (H : Type) (enc : TypeId × Value → H) :
    ReturnsInHanded {} Try.checked os 4 .any (Rows.changeFindsSpec.pre6 enc Try.prog Try.f4 Rows.changeFindsRow.domain false) (Rows.changeFindsSpec.post enc Try.prog Try.f4 false true false false) := by
  refine returnsInHanded_of_change (C := Try.checked) own started (by kernel_rfl) Try.func4
    (ChangeSpec.witness6 (enc := enc) (C := Try.checked) false ⟨#[], #[.slice none 0 0, .slice none 0 0], []⟩ 8 (by kernel_rfl) (by kernel_rfl) (by kernel_rfl) (by kernel_rfl)) ?_
  intro W base args ds gs before hval0 hW hcnd _
  have hval : ∀ (j : Nat) t v, Try.f4.params[j]? = some t → args[j]? = some v → Value.okWide Try.prog W .any base t v := hval0
  have hW' := hW
  obtain ⟨p, q, hA0, hV, rfl, hfz, hnd⟩ := hW
  have hA : DataW.TrodAll enc Try.prog W 0 (fun _ => true) true Try.f4.params.toList args.toList ds p := hA0
  rw [Try.params4] at hA hval
  obtain ⟨v0, vs0, d0, ds0, p0, q0, hargs, rfl, rfl, h0, r0⟩ := trodAll_cons hA
  obtain ⟨v1, vs1, d1, ds1, p1, q1, rfl, rfl, rfl, h1, r1⟩ := trodAll_cons r0
  obtain ⟨rfl, rfl, rfl⟩ := trodAll_nil r1
  obtain rfl : args = #[v0, v1] := by cases args; simp_all
  obtain ⟨rfl, rfl⟩ := trodVars_none hV
  obtain ⟨A0, c0, s0, rfl, hm0, hr0, hs0, hc0, -⟩ := arg_ents (hval 0 22 v0 rfl rfl) h0
  obtain ⟨A1, c1, s1, rfl, hm1, hr1, hs1, hc1, -⟩ := arg_ents (hval 1 22 v1 rfl rfl) h1
  refine (changeFinds_walk A0 A1 c0 c1 s0 s1 _ hm0 hs0 hm1 hs1 hr0 hr1).mono fun e W' ⟨he, hb⟩ => ?_
  subst he
  exact ⟨_, rfl, post_law laidOut (by decide +kernel) rfl Try.underlying4 (by kernel_rfl) hW' rfl hb⟩

/-- The statement. -/
theorem changeFinds_said : Rows.ChangeFindsSaid :=
  OpenClaim.holds_of_wide 4 Try.f4 rfl rfl rfl rfl rfl rfl rfl ⟨rfl, rfl, rfl, rfl, rfl⟩ rfl rfl rfl rfl rfl (by kernel_rfl) Try.func4 (by kernel_rfl)
    (of_decide_eq_true (by kernel_rfl)) (by unfold Func.isWrapper; first | (rw [if_pos (by decide +kernel)]; kernel_rfl) | (rw [if_neg (by decide +kernel)]; exact ⟨rfl, rfl⟩))
    (fun os started H enc _ => changeFinds_lifted os started H enc)
#print axioms changeFinds_said
end Go.Proofs.Ytmmmolbejfdamaa
