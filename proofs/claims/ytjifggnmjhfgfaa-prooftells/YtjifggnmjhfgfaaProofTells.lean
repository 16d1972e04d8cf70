/- ProofTells: Said, Root, Tell and After answer as the reference does. -/
import Derived.Test.YtjifggnmjhfgfaaProofRoot
import Derived.Test.YtjifggnmjhfgfaaOBox
import Derived.Test.YtjifggnmjhfgfaaRefPRoot
import Derived.Test.YtjifggnmjhfgfaaRefBook
import Derived.Test.YtjifggnmjhfgfaaEqStrs
import Derived.Test.YtjifggnmjhfgfaaArgP
import Derived.Test.YtjifggnmjhfgfaaLaw
namespace Go.Proofs.Ytjifggnmjhfgfaa
set_option maxRecDepth 100000
open Go.ChangeShapes Go.WideShapes Go.ChangeAt Go.RowKit

def saidAns (n : Bytes) (es : List Ent) (ss : List Nat) : List Bytes := if pfault n es ss = 0 then psaid n es ss else []
def rootAns (n : Bytes) (es : List Ent) (ss : List Nat) : Nat := if pfault n es ss = 0 then proot n es ss else 0
/-- What Said leaves, whatever it is given. -/
def SaidAny (T : List Bytes) (q : Int) (w : World) (e : Ending) (w' : World) : Prop := ∃ J k jc, e = .returned (.tuple #[.slice J k jc, .int .i64 q]) ∧ k = T.length ∧ Row w' J (scells T) ∧ Below w.heap.size w w'
theorem proofSaid_any (n : Bytes) (es : List Ent) (ss : List Nat) (A B : Option Addr) (c d : Nat) (w : World) (hn : n.length ≤ maxLen) (hm : es.length ≤ maxLen) (hes : ∀ x ∈ es, x.1.length ≤ maxLen ∧ x.2.length ≤ maxLen) (hsm : ss.length ≤ maxLen) (hA : Row w A (encells es)) (hB : Row w B (mcells ss)) :
    Calls Try.prog 16 #[.agg #[.string (S n), .slice A es.length c, .slice B ss.length d]] w (SaidAny (saidAns n es ss) (pfault n es ss) w) := by
  by_cases h : pfault n es ss = 0
  · rw [saidAns, if_pos h, h]
    refine (proofSaid_yes n es ss A B c d w ((pfault_ok _ _ _).1 h) hA hB).mono ?_
    rintro e w' ⟨D, f, rfl, hr, hb⟩
    exact ⟨D, _, f, rfl, rfl, hr, hb⟩
  · rw [saidAns, if_neg h]
    refine (proofSaid_no n es ss A B c d w hn hm hes hsm hA hB _ rfl h).mono ?_
    rintro e w' ⟨rfl, hb⟩
    exact ⟨none, 0, 0, rfl, rfl, Row.nil_ _ _, hb⟩
theorem proofRoot_any (n : Bytes) (es : List Ent) (ss : List Nat) (A B : Option Addr) (c d : Nat) (w : World) (hn : n.length ≤ maxLen) (hm : es.length ≤ maxLen) (hes : ∀ x ∈ es, x.1.length ≤ maxLen ∧ x.2.length ≤ maxLen) (hsm : ss.length ≤ maxLen) (hA : Row w A (encells es)) (hB : Row w B (mcells ss)) :
    Calls Try.prog 17 #[.agg #[.string (S n), .slice A es.length c, .slice B ss.length d]] w fun e w' => e = .returned (.tuple #[.int .u64 (rootAns n es ss : Int), .int .i64 (pfault n es ss)]) ∧ Below w.heap.size w w' := by
  by_cases h : pfault n es ss = 0
  · rw [rootAns, if_pos h, h]
    exact proofRoot_yes n es ss A B c d w ((pfault_ok _ _ _).1 h) hA hB _ rfl
  · rw [rootAns, if_neg h]
    exact proofRoot_no n es ss A B c d w hn hm hes hsm hA hB _ rfl h

theorem tells_bad {root : Nat} {n v : Bytes} {es : List Ent} {ss : List Nat} (h : pfault n es ss ≠ 0) : saidAns n es ss = [] ∧ rootAns n es ss = 0 ∧ tellAns root n es ss = ([], false, pfault n es ss) ∧ afterAns root n es ss v = 0 ∧ afterErr root n es ss v = pfault n es ss := by
  have hv : verr root n es ss = pfault n es ss := by rw [verr, if_neg h]
  have hv0 : ¬ verr root n es ss = 0 := by rw [hv]; exact h
  have he : afterErr root n es ss v = pfault n es ss := by rw [afterErr, if_neg hv0, hv]
  exact ⟨by rw [saidAns, if_neg h], by rw [rootAns, if_neg h], by rw [tellAns, if_neg hv0, hv], by rw [afterAns, if_neg (by rw [he]; exact h)], he⟩
theorem tells_root {root : Nat} {n v : Bytes} {es : List Ent} {ss : List Nat} (h : pfault n es ss = 0) (hr : proot n es ss ≠ root) : tellAns root n es ss = ([], false, 8) ∧ afterAns root n es ss v = 0 ∧ afterErr root n es ss v = 8 := by
  have hv : verr root n es ss = 8 := by rw [verr, if_pos h, if_neg hr]
  have hv0 : ¬ verr root n es ss = 0 := by rw [hv]; decide
  have he : afterErr root n es ss v = 8 := by rw [afterErr, if_neg hv0, hv]
  exact ⟨by rw [tellAns, if_neg hv0, hv], by rw [afterAns, if_neg (by rw [he]; decide)], he⟩
theorem tells_ok {root : Nat} {n v : Bytes} {es : List Ent} {ss : List Nat} (h : pfault n es ss = 0) (hr : proot n es ss = root) : tellAns root n es ss = ((stands es n).getD [], (stands es n).isSome, 0) ∧ afterErr root n es ss v = (if 20 < v.length then 2 else if (stands es n).isSome = false ∧ es.length = 24 then 7 else 0) := by
  have hg := (pfault_ok _ _ _).1 h
  have hv0 : verr root n es ss = 0 := by rw [verr, if_pos h, if_pos hr]
  refine ⟨by rw [tellAns, if_pos hv0], ?_⟩
  rw [afterErr, if_pos hv0, setErr, if_pos ((askErr_ok _ _).2 ⟨hg.book, hg.name⟩), there_stands n es hg.book.order]

theorem Row.setOther {w : World} {D : Option Addr} {cs : List Value} (h : Row w D cs) (a : Addr) (u0 u : Value) (hu : w.cell? a = some u0) (hne : ∀ x ∈ cs, x ≠ u0) : Row (w.setCell a u) D cs := fun h0 => by
  obtain ⟨g, off, e, hc⟩ := h h0
  refine ⟨g, off, e, fun k hk => ?_⟩
  have h1 := hc k hk
  refine (World.cell?_setCell_other w a ⟨g, off + k, none⟩ u fun e => ?_).trans h1
  first | rw [← e, hu] at h1 | rw [e, hu] at h1
  injection h1 with h1
  exact hne _ (List.getElem_mem hk) h1.symm
theorem encells_no (T : List Ent) (A : Option Addr) (k c : Nat) : ∀ x ∈ encells T, x ≠ .slice A k c := fun x hx e => by
  subst e
  simp [encells] at hx
theorem mcells_no (T : List Nat) (A : Option Addr) (k c : Nat) : ∀ x ∈ mcells T, x ≠ .slice A k c := fun x hx e => by
  subst e
  simp [mcells] at hx

set_option maxHeartbeats 4000000 in
theorem proofTells_walk (root : Nat) (n v : Bytes) (es : List Ent) (ss : List Nat) (A B : Option Addr) (c d : Nat) (w : World) (hn : n.length ≤ maxLen) (hm : es.length ≤ maxLen) (hes : ∀ x ∈ es, x.1.length ≤ maxLen ∧ x.2.length ≤ maxLen) (hsm : ss.length ≤ maxLen) (hc : es.length ≤ c) (hv : v.length ≤ maxLen) (hA : Row w A (encells es)) (hB : Row w B (mcells ss)) :
    Calls Try.prog 4 #[.int .u64 (root : Int), .agg #[.string (S n), .slice A es.length c, .slice B ss.length d], .string (S v)] w fun e w' => e = .returned (.bool true) ∧ Below w.heap.size w w' := by
  obtain ⟨x1, b1, r1, hx1⟩ : ∃ x b r, tellAns root n es ss = (x, b, r) := ⟨_, _, _, rfl⟩
  have hS := fun (w : World) hA hB => Lib.hid (proofSaid_any n es ss A B c d w hn hm hes hsm hA hB)
  have hR := fun (w : World) hA hB => Lib.hid (proofRoot_any n es ss A B c d w hn hm hes hsm hA hB)
  have hT := fun (w : World) hA hB => Lib.hid (proofTell root n es ss A B c d w hn hm hes hsm hA hB x1 b1 r1 hx1)
  have hF := fun (w : World) hA hB => Lib.hid (proofAfter root n es ss v A B c d w hn hm hes hsm hc hv hA hB _ _ rfl rfl)
  have hP := fun (w : World) hA hB => Lib.hid (refPFault n es ss A B c d w hn hm hes hsm hA hB _ rfl)
  obtain ⟨k0, k1, k2⟩ := PBox.new w n A B es.length c ss.length d 25
  have HX := Lib.hid hx1
  have HV := Lib.hid hv
  have HN := Lib.hid hn
  obtain ⟨T, hT0⟩ : ∃ T, saidAns n es ss = T := ⟨_, rfl⟩
  obtain ⟨x0, hx0⟩ : ∃ T, rootAns n es ss = T := ⟨_, rfl⟩
  obtain ⟨y, hy⟩ : ∃ T, afterAns root n es ss v = T := ⟨_, rfl⟩
  obtain ⟨r2, hr2⟩ : ∃ T, afterErr root n es ss v = T := ⟨_, rfl⟩
  obtain ⟨q, hq⟩ : ∃ T, pfault n es ss = T := ⟨_, rfl⟩
  rw [hT0, hq] at hS
  rw [hx0, hq] at hR
  rw [hy, hr2] at hF
  rw [hq] at hP
  have HT := Lib.hid hT0
  have H0 := Lib.hid hx0
  have HY := Lib.hid hy
  have HR := Lib.hid hr2
  have HQ := Lib.hid hq
  clear hx1 hn hm hes hsm hc hv hT0 hx0 hy hr2 hq
  go_enter Try.func4, Try.ntmps4
  go_wp2_with fail
  refine (hS _ (hA.alloc _) (hB.alloc _)).out.mono ?_
  rintro e w1 ⟨J, jk, jc, rfl, hjk, hJ, hb1⟩
  have HJ := Lib.hid hjk
  have hb01 : Below w.heap.size w w1 := below_chain ((Below.refl _ _).alloc (Nat.le_refl _) _) hb1
  have hx1 := (PBox.mk k0 k1 k2).below hb1
  clear k0 k1 k2 hb1 hS hjk
  obtain ⟨k0, k1, k2⟩ := hx1
  go_wp2_with fail
  refine (hR _ (hA.below hb01) (hB.below hb01)).out.mono ?_
  rintro e w2 ⟨rfl, hb2⟩
  have hb02 := below_chain hb01 hb2
  have hx2 := (PBox.mk k0 k1 k2).below hb2
  have hJ2 := hJ.below hb2
  clear k0 k1 k2 hb2 hR hJ hb01
  obtain ⟨k0, k1, k2⟩ := hx2
  go_wp2_with fail
  refine (hT _ (hA.below hb02) (hB.below hb02)).out.mono ?_
  rintro e w3 ⟨rfl, hb3⟩
  have hb03 := below_chain hb02 hb3
  have hx3 := (PBox.mk k0 k1 k2).below hb3
  have hJ3 := hJ2.below hb3
  clear k0 k1 k2 hb3 hT hJ2 hb02
  obtain ⟨k0, k1, k2⟩ := hx3
  go_wp2_with fail
  refine (hF _ (hA.below hb03) (hB.below hb03)).out.mono ?_
  rintro e w4 ⟨rfl, hb4⟩
  have hb04 := below_chain hb03 hb4
  have hx4 := (PBox.mk k0 k1 k2).below hb4
  have hJ4 := hJ3.below hb4
  clear k0 k1 k2 hb4 hF hJ3 hb03
  obtain ⟨k0, k1, k2⟩ := hx4
  go_wp2_with fail
  refine (hP _ (hA.below hb04) (hB.below hb04)).out.mono ?_
  rintro e w5 ⟨rfl, hb5⟩
  have hb05 := below_chain hb04 hb5
  have hx5 := (PBox.mk k0 k1 k2).below hb5
  have hJ5 := hJ4.below hb5
  clear k0 k1 k2 hb5 hP hJ4 hb04
  by_cases h0 : q = 0
  · subst h0
    have hp := (pfault_ok _ _ _).1 HQ.out
    have h16 := hp.len
    have hl24 := hp.book.len
    have HT' : Hid (psaid n es ss = T) := by
      show _ = T
      rw [← HT.out, saidAns, if_pos HQ.out]
    have H0' : Hid (proot n es ss = x0) := by
      show _ = x0
      rw [← H0.out, rootAns, if_pos HQ.out]
    have hPS := fun (w : World) hA hB => Lib.hid (refPSaid n es ss A B c d w HN.out (by omega) (good_5 hp.book) h16 hp.low hA hB)
    have hPR := fun (w : World) hA hB => Lib.hid (refPRoot n es ss A B c d w HN.out (by omega) (good_5 hp.book) h16 hp.low hA hB x0 H0'.out)
    have hTl : T.length ≤ maxLen := by rw [← HT'.out, psaid, List.length_map, List.length_range]; unfold maxLen; omega
    rw [HT'.out] at hPS
    have hEq := fun (D : Option Addr) (f : Nat) (w : World) hJ hD => Lib.hid (eqStrs J D jc f T T w hTl true (by simp) hJ hD)
    rw [← HJ.out] at hEq
    have HP := Lib.hid hp
    clear hp h16 hl24 hTl
    obtain ⟨k0, k1, k2⟩ := hx5
    go_wp2_with fail
    refine (hPS _ (hA.below hb05) (hB.below hb05)).out.mono ?_
    rintro e w6 ⟨D, f, rfl, hD, hb6⟩
    have hb06 := below_chain hb05 hb6
    have hx6 := (PBox.mk k0 k1 k2).below hb6
    have hJ6 := hJ5.below hb6
    rw [← HJ.out]
    clear k0 k1 k2 hb6 hPS hJ5 hb05
    obtain ⟨k0, k1, k2⟩ := hx6
    go_wp2_with fail
    refine (hEq _ _ _ hJ6 hD).out.mono ?_
    rintro e w7 ⟨rfl, m7, hw7⟩
    have hb7 : Below w6.heap.size w6 w7 := by rw [hw7]; exact below_of_drewN _ _ _
    have hb07 := below_chain hb06 hb7
    have hx7 := (PBox.mk k0 k1 k2).below hb7
    clear k0 k1 k2 hb7 hw7 hEq hJ6 hD hb06
    obtain ⟨k0, k1, k2⟩ := hx7
    go_wp2_with fail
    refine (hPR _ (hA.below hb07) (hB.below hb07)).out.mono ?_
    rintro e w8 ⟨rfl, hb8⟩
    have hb08 := below_chain hb07 hb8
    have hx8 := (PBox.mk k0 k1 k2).below hb8
    clear k0 k1 k2 hb8 hb07
    obtain ⟨k0, k1, k2⟩ := hx8
    go_wp2_with fail
    refine (hPR _ (hA.below hb08) (hB.below hb08)).out.mono ?_
    rintro e w9 ⟨rfl, hb9⟩
    have hb09 := below_chain hb08 hb9
    have hx9 := (PBox.mk k0 k1 k2).below hb9
    clear k0 k1 k2 hb9 hb08 hPR
    by_cases hr : x0 = root
    · obtain ⟨e1, e2⟩ := tells_ok (root := root) (n := n) (v := v) (es := es) (ss := ss) HQ.out (by rw [H0'.out]; exact hr)
      have hp := HP.out
      have hl24 := hp.book.len
      have hSt := fun (w : World) hA => Lib.hid (refStands A c es n w (by unfold maxLen; omega) hA _ rfl)
      rw [HX.out] at e1
      injection e1 with e4 e5
      injection e5 with e5 e6
      rw [← e4, ← e5] at hSt
      rw [HR.out, ← e5] at e2
      have c1 : ((x0 : Int) == (root : Int)) = true := beq_iff_eq.2 (by omega)
      subst e6
      have hy : y = if r2 = 0 then proot n (setTo n v es) ss else 0 := by rw [← HY.out, afterAns, HR.out]
      clear HX HY HT H0 H0' HJ HT' e4 e5 hr HQ
      obtain ⟨k0, k1, k2⟩ := hx9
      by_cases hv20 : 20 < v.length
      · rw [if_pos hv20] at e2
        subst e2
        rw [if_neg (by decide)] at hy
        subst hy
        have c2 : decide ((20 : Int) < (v.length : Int)) = true := decide_eq_true (by omega)
        clear HR HP hp hl24 hB hv20
        go_wp2_with fail
        refine (hSt _ (hA.below hb09)).out.mono ?_
        rintro e w10 ⟨rfl, hb10⟩
        go_wp2
        go_ret
        exact ⟨rfl, below_chain hb09 hb10⟩
      · rw [if_neg hv20] at e2
        have c2 : decide ((20 : Int) < (v.length : Int)) = false := decide_eq_false (by omega)
        by_cases h24 : b1 = false ∧ es.length = 24
        · rw [if_pos h24] at e2
          subst e2
          rw [if_neg (by decide)] at hy
          subst hy
          obtain ⟨hb, h24⟩ := h24
          subst hb
          have c3 : ((es.length : Int) == 24) = true := beq_iff_eq.2 (by omega)
          clear HR HP hp hl24 hB hv20 h24
          go_wp2_with fail
          refine (hSt _ (hA.below hb09)).out.mono ?_
          rintro e w10 ⟨rfl, hb10⟩
          have hx10 := (PBox.mk k0 k1 k2).below hb10
          clear k0 k1 k2
          obtain ⟨k0, k1, k2⟩ := hx10
          go_wp2
          go_ret
          exact ⟨rfl, below_chain hb09 hb10⟩
        · rw [if_neg h24] at e2
          subst e2
          rw [if_pos rfl] at hy
          have hse : setErr es n v = 0 := by
            have := HR.out
            rw [afterErr] at this
            by_cases hv0 : verr root n es ss = 0
            · rw [if_pos hv0] at this; exact this
            · rw [if_neg hv0] at this; exact absurd this hv0
          have hp2 := setTo_pgood hp hse
          have hl2 := hp2.book.len
          have hSet := fun (w : World) hA => Lib.hid (refSet A c es n v w (by omega) HN.out (fun x hx => by have := (Bin.name_len (hp.book.name x hx)).2; unfold maxLen; omega) hA)
          have hPR := fun (D : Option Addr) (f : Nat) (w : World) hA hB => Lib.hid (refPRoot n (setTo n v es) ss D B f d w HN.out (by omega) (good_5 hp2.book) hp2.len hp2.low hA hB y hy.symm)
          generalize setTo n v es = T' at *
          have hcase : b1 = true ∨ b1 = false ∧ ((es.length : Int) == 24) = false := by
            cases b1 with
            | true => exact .inl rfl
            | false => exact .inr ⟨rfl, beq_eq_false_iff_ne.2 (by intro e; exact h24 ⟨rfl, by omega⟩)⟩
          clear HR HP hp hl24 hv20 h24 hy hse hp2 hl2
          go_wp2_with fail
          refine (hSt _ (hA.below hb09)).out.mono ?_
          rintro e w10 ⟨rfl, hb10⟩
          have hb010 := below_chain hb09 hb10
          have hx10 := (PBox.mk k0 k1 k2).below hb10
          have hx11 := hx10.alloc (.cells #[.string (S n), .slice A es.length c, .slice B ss.length d] 25)
          have hz11 := OBox.new w10 (.string (S n)) (.slice A es.length c) (.slice B ss.length d) 25
          have hb011 : Below w.heap.size w (w10.alloc (.cells #[.string (S n), .slice A es.length c, .slice B ss.length d] 25)) := hb010.alloc hb010.size _
          clear k0 k1 k2 hSt hb09 hb10
          obtain ⟨k0, k1, k2⟩ := hx10
          obtain ⟨m0, m1, m2⟩ := hx11
          rcases hcase with hbb | ⟨hbb, c3⟩
          all_goals
            subst hbb
            go_wp2_with fail
            generalize w10.alloc (.cells #[.string (S n), .slice A es.length c, .slice B ss.length d] 25) = w11 at *
            generalize hgs : w10.heap.size = g at *
            refine (hSet _ (hA.below hb011)).out.mono ?_
            rintro e w12 ⟨D, f, rfl, hD, hb12⟩
            have hb012 := below_chain hb011 hb12
            have hz12 := hz11.below hb12
            have hgw : w.heap.size ≤ g := by rw [← hgs]; exact hb010.size
            have hD13 := hD.setOther ⟨g, 1, none⟩ _ (.slice D T'.length f) hz12.o1 (encells_no _ _ _ _)
            have hB13 := (hB.below hb012).setOther ⟨g, 1, none⟩ _ (.slice D T'.length f) hz12.o1 (mcells_no _ _ _ _)
            have hz13 := hz12.set1 (.slice D T'.length f)
            have hb013 := hb012.setCell (p := ⟨g, 1, none⟩) hgw (.slice D T'.length f)
            obtain ⟨z0, z1, z2, f0, f1, f2⟩ := hz12
            obtain ⟨x0', x1', x2', -, -, -⟩ := hz13
            clear hD hA hB hz11 hgs k0 k1 k2 m0 m1 m2
            go_wp2_with fail
            refine (hPR _ _ _ hD13 hB13).out.mono ?_
            rintro e w14 ⟨rfl, hb14⟩
            go_wp2
            go_ret
            exact ⟨by simp, below_chain hb013 hb14⟩
    · obtain ⟨e1, e2, e3⟩ := tells_root (root := root) (n := n) (v := v) (es := es) (ss := ss) HQ.out (by rw [H0'.out]; exact hr)
      rw [HX.out] at e1
      rw [HY.out] at e2
      rw [HR.out] at e3
      injection e1 with e4 e5
      injection e5 with e5 e6
      have c1 : ((x0 : Int) == (root : Int)) = false := beq_eq_false_iff_ne.2 (by omega)
      subst e2 e3 e4 e5 e6
      clear HX HY HR HQ HT H0 H0' HJ HT' HP hA hB hr
      go_wp2
      go_ret
      exact ⟨rfl, hb09⟩
  · obtain ⟨e1, e2, e3, e4, e5⟩ := tells_bad (root := root) (n := n) (v := v) (es := es) (ss := ss) (by rw [HQ.out]; exact h0)
    rw [HT.out] at e1
    rw [H0.out] at e2
    rw [HX.out, HQ.out] at e3
    rw [HY.out] at e4
    rw [HR.out, HQ.out] at e5
    injection e3 with e6 e7
    injection e7 with e7 e8
    have e9 : jk = 0 := by rw [HJ.out, e1]; rfl
    have c1 : (q == 0) = false := beq_eq_false_iff_ne.2 h0
    subst e2 e4 e5 e6 e7 e8 e9
    clear HX HY HR HQ HT H0 HJ hJ5 hA hB e1 h0
    go_wp2
    go_ret
    exact ⟨rfl, hb05⟩

set_option maxRecDepth 100000 in
theorem proofTells_lifted (os : Os) (started : os.Started) (H : Type) (enc : TypeId × Value → H) :
    ReturnsInHanded {} Try.checked os 4 .any (Rows.proofTellsSpec.pre6 enc Try.prog Try.f4 Rows.proofTellsRow.domain false) (Rows.proofTellsSpec.post enc Try.prog Try.f4 false true false false) := by
  refine returnsInHanded_of_change (C := Try.checked) own started (by kernel_rfl) Try.func4
    (ChangeSpec.witness6 (enc := enc) (C := Try.checked) false ⟨#[], #[.int .u64 0, .agg #[.string ⟨#[]⟩, .slice none 0 0, .slice none 0 0], .string ⟨#[]⟩], []⟩ 8 (by kernel_rfl) (by kernel_rfl) (by kernel_rfl) (by kernel_rfl)) ?_
  intro W base args ds gs before hval0 hW hcnd _
  have hval : ∀ (j : Nat) t v, Try.f4.params[j]? = some t → args[j]? = some v → Value.okWide Try.prog W .any base t v := hval0
  have hW' := hW
  obtain ⟨p, q, hA0, hV, rfl, hfz, hnd⟩ := hW
  have hA : DataW.TrodAll enc Try.prog W 0 (fun _ => true) true Try.f4.params.toList args.toList ds p := hA0
  rw [Try.params4] at hA hval
  obtain ⟨v0, vs0, d0, ds0, p0, q0, hargs, rfl, rfl, h0, r0⟩ := trodAll_cons hA
  obtain ⟨v1, vs1, d1, ds1, p1, q1, rfl, rfl, rfl, h1, r1⟩ := trodAll_cons r0
  obtain ⟨v2, vs2, d2, ds2, p2, q2, rfl, rfl, rfl, h2, r2⟩ := trodAll_cons r1
  obtain ⟨rfl, rfl, rfl⟩ := trodAll_nil r2
  obtain rfl : args = #[v0, v1, v2] := by cases args; simp_all
  obtain ⟨rfl, rfl⟩ := trodVars_none hV
  obtain ⟨n0, rfl, hn0⟩ := arg_u64 (hval 0 35 v0 rfl rfl) h0
  obtain ⟨n1, A1, c1, e1, B1, d1, s1, rfl, hn1, hm1, hr1, hs1, hc1, km1, kr1, ks1, kc1⟩ := arg_prf (hval 1 25 v1 rfl rfl) h1
  obtain ⟨l2, rfl, hl2⟩ := arg_str (hval 2 9 v2 rfl rfl) h2
  refine (proofTells_walk n0 n1 l2 e1 s1 A1 B1 c1 d1 _ hn1 hm1 hs1 km1 hc1 hl2 hr1 kr1).mono fun e W' ⟨he, hb⟩ => ?_
  subst he
  exact ⟨_, rfl, post_law laidOut (by decide +kernel) rfl Try.underlying4 (by kernel_rfl) hW' rfl hb⟩

/-- The statement. -/
theorem proofTells_said : Rows.ProofTellsSaid :=
  OpenClaim.holds_of_wide 4 Try.f4 rfl rfl rfl rfl rfl rfl rfl ⟨rfl, rfl, rfl, rfl, rfl⟩ rfl rfl rfl rfl rfl (by kernel_rfl) Try.func4 (by kernel_rfl)
    (of_decide_eq_true (by kernel_rfl)) (by unfold Func.isWrapper; first | (rw [if_pos (by decide +kernel)]; kernel_rfl) | (rw [if_neg (by decide +kernel)]; exact ⟨rfl, rfl⟩))
    (fun os started H enc _ => proofTells_lifted os started H enc)
#print axioms proofTells_said
end Go.Proofs.Ytjifggnmjhfgfaa
