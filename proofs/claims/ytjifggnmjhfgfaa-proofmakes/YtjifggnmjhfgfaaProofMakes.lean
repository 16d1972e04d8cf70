/- ProofMakes: Make and Right answer as the reference does. -/
import Derived.Test.YtjifggnmjhfgfaaProofMake
import Derived.Test.YtjifggnmjhfgfaaProofRight
import Derived.Test.YtjifggnmjhfgfaaRefPRoot
import Derived.Test.YtjifggnmjhfgfaaRefPOf
import Derived.Test.YtjifggnmjhfgfaaArgP
import Derived.Test.YtjifggnmjhfgfaaLaw
namespace Go.Proofs.Ytjifggnmjhfgfaa
set_option maxRecDepth 100000
open Go.ChangeShapes Go.WideShapes Go.ChangeAt Go.RowKit

theorem same_zero (w : World) : Calls Try.prog 14 #[.agg #[.string ⟨#[]⟩, .slice none 0 0, .slice none 0 0], .agg #[.string ⟨#[]⟩, .slice none 0 0, .slice none 0 0]] w fun e w' => e = .returned (.bool true) ∧ Below w.heap.size w w' :=
  refSameProof [] [] [] [] [] [] none none none none 0 0 0 0 w (by simp) (by simp) (Row.nil_ _ _) (Row.nil_ _ _) (Row.nil_ _ _) (Row.nil_ _ _) true (by simp)

set_option maxHeartbeats 4000000 in
theorem proofMakes_walk (A : Option Addr) (c : Nat) (es : List Ent) (m : Bytes) (n : Bytes) (fs : List Ent) (ss : List Nat) (P Q : Option Addr) (cp cq : Nat) (w : World) (hm : es.length ≤ maxLen) (hes : ∀ x ∈ es, x.1.length ≤ maxLen ∧ x.2.length ≤ maxLen) (hml : m.length ≤ maxLen) (hA : Row w A (encells es))
    (hn : n.length ≤ maxLen) (hfm : fs.length ≤ maxLen) (hfs : ∀ x ∈ fs, x.1.length ≤ maxLen ∧ x.2.length ≤ maxLen) (hsm : ss.length ≤ maxLen) (hP : Row w P (encells fs)) (hQ : Row w Q (mcells ss)) :
    Calls Try.prog 3 #[.slice A es.length c, .string (S m), .agg #[.string (S n), .slice P fs.length cp, .slice Q ss.length cq]] w fun e w' => e = .returned (.bool true) ∧ Below w.heap.size w w' := by
  have hF := fun (w : World) hA => Lib.hid (refFault A c es w hm hes hA _ rfl)
  have hG := fun w => Lib.hid (goodName m w hml _ rfl)
  have hR1 := fun (w : World) hP hQ => Lib.hid (proofRight n fs ss P Q cp cq w hn hfm hfs hsm hP hQ _ rfl)
  have hR2 := fun (w : World) hP hQ => Lib.hid (refPFault n fs ss P Q cp cq w hn hfm hfs hsm hP hQ _ rfl)
  have hZ := fun w => Lib.hid (same_zero w)
  obtain ⟨k0, k1, k2⟩ := PBox.new w n P Q fs.length cp ss.length cq 25
  generalize pfault n fs ss = q at *
  clear hn hfm hfs hsm
  have hR1' : ∀ (wb : World) (g : Nat) (v0 v1 v2 : Value), Below w.heap.size w wb → ∀ W : World, (W.cell? ⟨w.heap.size, 0, none⟩ = some (.string (S n)) ∧ W.cell? ⟨w.heap.size, 1, none⟩ = some (.slice P fs.length cp) ∧ W.cell? ⟨w.heap.size, 2, none⟩ = some (.slice Q ss.length cq) ∧ W.cell? ⟨g, 0, none⟩ = some v0 ∧ W.cell? ⟨g, 1, none⟩ = some v1 ∧ W.cell? ⟨g, 2, none⟩ = some v2 ∧ Below wb.heap.size wb W) → Hid (Calls Try.prog 12 #[.agg #[.string (S n), .slice P fs.length cp, .slice Q ss.length cq]] W fun e w' => e = .returned (.int .i64 q) ∧ w'.cell? ⟨w.heap.size, 0, none⟩ = some (.string (S n)) ∧ w'.cell? ⟨w.heap.size, 1, none⟩ = some (.slice P fs.length cp) ∧ w'.cell? ⟨w.heap.size, 2, none⟩ = some (.slice Q ss.length cq) ∧ w'.cell? ⟨g, 0, none⟩ = some v0 ∧ w'.cell? ⟨g, 1, none⟩ = some v1 ∧ w'.cell? ⟨g, 2, none⟩ = some v2 ∧ Below wb.heap.size wb w') := fun wb g v0 v1 v2 hb0 W h => by
    show Calls _ _ _ _ _
    have hb := below_chain hb0 h.2.2.2.2.2.2
    refine (hR1 W (hP.below hb) (hQ.below hb)).out.mono ?_
    rintro e w' ⟨rfl, hb'⟩
    exact ⟨rfl, kept h.1 hb', kept h.2.1 hb', kept h.2.2.1 hb', kept h.2.2.2.1 hb', kept h.2.2.2.2.1 hb', kept h.2.2.2.2.2.1 hb', below_chain h.2.2.2.2.2.2 hb'⟩
  have hR2' : ∀ (wb : World) (g : Nat) (v0 v1 v2 : Value), Below w.heap.size w wb → ∀ W : World, (W.cell? ⟨w.heap.size, 0, none⟩ = some (.string (S n)) ∧ W.cell? ⟨w.heap.size, 1, none⟩ = some (.slice P fs.length cp) ∧ W.cell? ⟨w.heap.size, 2, none⟩ = some (.slice Q ss.length cq) ∧ W.cell? ⟨g, 0, none⟩ = some v0 ∧ W.cell? ⟨g, 1, none⟩ = some v1 ∧ W.cell? ⟨g, 2, none⟩ = some v2 ∧ Below wb.heap.size wb W) → Hid (Calls Try.prog 13 #[.agg #[.string (S n), .slice P fs.length cp, .slice Q ss.length cq]] W fun e w' => e = .returned (.int .i64 q) ∧ w'.cell? ⟨w.heap.size, 0, none⟩ = some (.string (S n)) ∧ w'.cell? ⟨w.heap.size, 1, none⟩ = some (.slice P fs.length cp) ∧ w'.cell? ⟨w.heap.size, 2, none⟩ = some (.slice Q ss.length cq) ∧ w'.cell? ⟨g, 0, none⟩ = some v0 ∧ w'.cell? ⟨g, 1, none⟩ = some v1 ∧ w'.cell? ⟨g, 2, none⟩ = some v2 ∧ Below wb.heap.size wb w') := fun wb g v0 v1 v2 hb0 W h => by
    show Calls _ _ _ _ _
    have hb := below_chain hb0 h.2.2.2.2.2.2
    refine (hR2 W (hP.below hb) (hQ.below hb)).out.mono ?_
    rintro e w' ⟨rfl, hb'⟩
    exact ⟨rfl, kept h.1 hb', kept h.2.1 hb', kept h.2.2.1 hb', kept h.2.2.2.1 hb', kept h.2.2.2.2.1 hb', kept h.2.2.2.2.2.1 hb', below_chain h.2.2.2.2.2.2 hb'⟩
  clear hR1 hR2 hP hQ
  by_cases h0 : askErr es m = 0
  · obtain ⟨hg, hnm⟩ := (askErr_ok es m).1 h0
    have hK := fun (w : World) hA => Lib.hid (proofMake_yes A c es m w hg hnm hA)
    have hl := hg.len
    have hO := fun (w : World) hA => Lib.hid (refPOf A c es m w (by omega) (good_5 hg) hml hA)
    have hpg := proofOf_good hg hnm
    obtain ⟨hmL, _⟩ := small_of_good hpg.book
    have hM16 : (sidesOf es m).length ≤ maxLen := by rw [hpg.len]; unfold maxLen; omega
    have hS := fun (D E D' E' : Option Addr) (d f d' f' : Nat) (w : World) hD hE hD' hE' => Lib.hid (refSameProof m m (at16 es (Bin.of m)) (at16 es (Bin.of m)) (sidesOf es m) (sidesOf es m) D E D' E' d f d' f' w hmL hM16 hD hE hD' hE' true (by simp))
    rw [(fault_ok es).2 hg] at hF
    rw [hnm] at hG
    generalize at16 es (Bin.of m) = L at *
    generalize sidesOf es m = M at *
    clear h0 hg hnm hm hes hml hpg hmL hM16 hl hZ
    go_enter Try.func3, Try.ntmps3
    go_wp2_with fail
    refine (hK _ (hA.alloc _)).out.mono ?_
    rintro e w1 ⟨D, d, E, f, rfl, _, hD, hE, hb1⟩
    have hx1 := ((PBox.mk k0 k1 k2).below hb1).alloc (.cells #[.string (S m), .slice D L.length d, .slice E M.length f] 25)
    have hb10 : Below w.heap.size w w1 := below_chain ((Below.refl _ _).alloc (Nat.le_refl _) _) hb1
    have hb01 : Below w.heap.size w (w1.alloc (.cells #[.string (S m), .slice D L.length d, .slice E M.length f] 25)) := hb10.alloc hb10.size _
    have hz1 := OBox.new w1 (.string (S m)) (.slice D L.length d) (.slice E M.length f) 25
    have hD1 := hD.alloc (.cells #[.string (S m), .slice D L.length d, .slice E M.length f] 25)
    have hE1 := hE.alloc (.cells #[.string (S m), .slice D L.length d, .slice E M.length f] 25)
    go_wp2_with fail
    generalize w1.alloc (.cells #[.string (S m), .slice D L.length d, .slice E M.length f] 25) = w2 at *
    generalize w1.heap.size = g at *
    refine (hF _ (hA.below hb01)).out.mono ?_
    rintro e w3 ⟨rfl, hb3⟩
    have hb03 := below_chain hb01 hb3
    have hx3 := hx1.below hb3
    have hz3 := hz1.below hb3
    have hD3 := hD1.below hb3
    have hE3 := hE1.below hb3
    clear k0 k1 k2 hb1 hb10 hb01 hb3 hx1 hz1 hK hF hD hE hD1 hE1
    go_wp2_with fail
    refine (hG _).out.mono ?_
    rintro e w4 ⟨rfl, hw4⟩
    subst hw4
    clear hG
    obtain ⟨p0, p1, p2⟩ := hx3.below (bdrew (Below.refl _ _))
    obtain ⟨x0, x1, x2, -, -, -⟩ := hz3.below (bdrew (Below.refl _ _))
    have p6 : Below w3.heap.size w3 w3.drew := bdrew (Below.refl _ _)
    have hA1 := hR1' w3 g (.string (S m)) (.slice D L.length d) (.slice E M.length f) hb03
    have hA2 := hR2' w3 g (.string (S m)) (.slice D L.length d) (.slice E M.length f) hb03
    clear hR1' hR2' hx3 hz3
    go_wp2
    go_region_held3 (fun w' => w'.cell? ⟨w.heap.size, 0, none⟩ = some (.string (S n)) ∧ w'.cell? ⟨w.heap.size, 1, none⟩ = some (.slice P fs.length cp) ∧ w'.cell? ⟨w.heap.size, 2, none⟩ = some (.slice Q ss.length cq) ∧ w'.cell? ⟨g, 0, none⟩ = some (.string (S m)) ∧ w'.cell? ⟨g, 1, none⟩ = some (.slice D L.length d) ∧ w'.cell? ⟨g, 2, none⟩ = some (.slice E M.length f) ∧ Below w3.heap.size w3 w') (first | exact ⟨p0, p1, p2, x0, x1, x2, p6⟩ | exact ⟨by assumption, by assumption, by assumption, by assumption, by assumption, by assumption, by assumption⟩ | go_keep)
      (first
        | (go_at_call 12; refine (hA1 _ ?_).out.mono ?_; (first | exact ⟨by assumption, by assumption, by assumption, by assumption, by assumption, by assumption, by assumption⟩); rintro e w' ⟨rfl, k0, k1, k2, k3, k4, k5, k6⟩)
        | (go_at_call 13; refine (hA2 _ ?_).out.mono ?_; (first | exact ⟨by assumption, by assumption, by assumption, by assumption, by assumption, by assumption, by assumption⟩); rintro e w' ⟨rfl, k0, k1, k2, k3, k4, k5, k6⟩))
    all_goals
      have hb04 := below_chain hb03 k6
      have hA4 := hA.below hb04
      have hD4 := hD3.below k6
      have hE4 := hE3.below k6
      clear hA hD3 hE3 hA1 hA2 p0 p1 p2 x0 x1 x2 p6
      have hO' : ∀ W : World, (W.cell? ⟨g, 0, none⟩ = some (.string (S m)) ∧ W.cell? ⟨g, 1, none⟩ = some (.slice D L.length d) ∧ W.cell? ⟨g, 2, none⟩ = some (.slice E M.length f) ∧ Row W D (encells L) ∧ Row W E (mcells M) ∧ Row W A (encells es) ∧ Below w'.heap.size w' W) → Hid (Calls Try.prog 15 #[.slice A es.length c, .string (S m)] W fun e wx => ∃ D' d' E' f', e = .returned (.agg #[.string (S m), .slice D' L.length d', .slice E' M.length f']) ∧ Row wx D' (encells L) ∧ Row wx E' (mcells M) ∧ wx.cell? ⟨g, 0, none⟩ = some (.string (S m)) ∧ wx.cell? ⟨g, 1, none⟩ = some (.slice D L.length d) ∧ wx.cell? ⟨g, 2, none⟩ = some (.slice E M.length f) ∧ Row wx D (encells L) ∧ Row wx E (mcells M) ∧ Row wx A (encells es) ∧ Below w'.heap.size w' wx) := fun W h => by
        show Calls _ _ _ _ _
        refine (hO W h.2.2.2.2.2.1).out.mono ?_
        rintro e wx ⟨D', d', E', f', rfl, hD', hE', hb'⟩
        exact ⟨D', d', E', f', rfl, hD', hE', kept h.1 hb', kept h.2.1 hb', kept h.2.2.1 hb', h.2.2.2.1.below hb', h.2.2.2.2.1.below hb', h.2.2.2.2.2.1.below hb', below_chain h.2.2.2.2.2.2 hb'⟩
      have hS' : ∀ (D' E' : Option Addr) (d' f' : Nat) (W : World), Row W D' (encells L) → Row W E' (mcells M) → (W.cell? ⟨g, 0, none⟩ = some (.string (S m)) ∧ W.cell? ⟨g, 1, none⟩ = some (.slice D L.length d) ∧ W.cell? ⟨g, 2, none⟩ = some (.slice E M.length f) ∧ Row W D (encells L) ∧ Row W E (mcells M) ∧ Row W A (encells es) ∧ Below w'.heap.size w' W) → Hid (Calls Try.prog 14 #[.agg #[.string (S m), .slice D L.length d, .slice E M.length f], .agg #[.string (S m), .slice D' L.length d', .slice E' M.length f']] W fun e wx => e = .returned (.bool true) ∧ wx.cell? ⟨g, 0, none⟩ = some (.string (S m)) ∧ wx.cell? ⟨g, 1, none⟩ = some (.slice D L.length d) ∧ wx.cell? ⟨g, 2, none⟩ = some (.slice E M.length f) ∧ Row wx D (encells L) ∧ Row wx E (mcells M) ∧ Row wx A (encells es) ∧ Below w'.heap.size w' wx) := fun D' E' d' f' W hD' hE' h => by
        show Calls _ _ _ _ _
        refine (hS D E D' E' d f d' f' W h.2.2.2.1 h.2.2.2.2.1 hD' hE').out.mono ?_
        rintro e wx ⟨rfl, hb'⟩
        exact ⟨rfl, kept h.1 hb', kept h.2.1 hb', kept h.2.2.1 hb', h.2.2.2.1.below hb', h.2.2.2.2.1.below hb', h.2.2.2.2.2.1.below hb', below_chain h.2.2.2.2.2.2 hb'⟩
      clear hO hS
      have y6 : Below w'.heap.size w' w'.drew := bdrew (Below.refl _ _)
      have y0 := kept k3 y6
      have y1 := kept k4 y6
      have y2 := kept k5 y6
      have y3 := hD4.below y6
      have y4 := hE4.below y6
      have y5 := hA4.below y6
      clear k0 k1 k2 k3 k4 k5 k6 hD4 hE4 hA4
      go_wp2
      go_region_held3 (fun W => W.cell? ⟨g, 0, none⟩ = some (.string (S m)) ∧ W.cell? ⟨g, 1, none⟩ = some (.slice D L.length d) ∧ W.cell? ⟨g, 2, none⟩ = some (.slice E M.length f) ∧ Row W D (encells L) ∧ Row W E (mcells M) ∧ Row W A (encells es) ∧ Below w'.heap.size w' W) (first | exact ⟨y0, y1, y2, y3, y4, y5, y6⟩ | exact ⟨by assumption, by assumption, by assumption, by assumption, by assumption, by assumption, by assumption⟩ | go_keep)
        (first
          | (go_at_call 15; refine (hO' _ ?_).out.mono ?_; (first | exact ⟨by assumption, by assumption, by assumption, by assumption, by assumption, by assumption, by assumption⟩); rintro e wx ⟨D', d', E', f', rfl, hD', hE', j0, j1, j2, j3, j4, j5, j6⟩)
          | (go_at_call 14; refine (hS' _ _ _ _ _ hD' hE' ?_).out.mono ?_; (first | exact ⟨by assumption, by assumption, by assumption, by assumption, by assumption, by assumption, by assumption⟩); rintro e wy ⟨rfl, j0, j1, j2, j3, j4, j5, j6⟩))
      all_goals
        go_wp2
        go_ret
        exact ⟨rfl, below_chain hb04 j6⟩
  · have hK := fun (w : World) hA => Lib.hid (proofMake_no A c es m w hm hes hml hA _ rfl h0)
    by_cases hf : fault es = 0
    · have e3 : askErr es m = 3 := by
        rw [askErr, if_pos hf]
        by_cases hnm : Bin.name m = true
        · exact absurd ((askErr_ok es m).2 ⟨(fault_ok es).1 hf, hnm⟩) h0
        · rw [if_neg hnm]
      have hnm : Bin.name m = false := by
        cases hh : Bin.name m with
        | false => rfl
        | true => exact absurd ((askErr_ok es m).2 ⟨(fault_ok es).1 hf, hh⟩) h0
      rw [e3] at hK
      rw [hf] at hF
      rw [hnm] at hG
      clear h0 hf e3 hnm hm hes hml
      go_enter Try.func3, Try.ntmps3
      go_wp2_with fail
      refine (hK _ (hA.alloc _)).out.mono ?_
      rintro e w1 ⟨rfl, hb1⟩
      have hx1 := ((PBox.mk k0 k1 k2).below hb1).alloc (.cells #[.string ⟨#[]⟩, .slice none 0 0, .slice none 0 0] 25)
      have hb10 : Below w.heap.size w w1 := below_chain ((Below.refl _ _).alloc (Nat.le_refl _) _) hb1
      have hb01 : Below w.heap.size w (w1.alloc (.cells #[.string ⟨#[]⟩, .slice none 0 0, .slice none 0 0] 25)) := hb10.alloc hb10.size _
      have hz1 := OBox.new w1 (.string ⟨#[]⟩) (.slice none 0 0) (.slice none 0 0) 25
      go_wp2_with fail
      generalize w1.alloc (.cells #[.string ⟨#[]⟩, .slice none 0 0, .slice none 0 0] 25) = w2 at *
      generalize w1.heap.size = g at *
      refine (hF _ (hA.below hb01)).out.mono ?_
      rintro e w3 ⟨rfl, hb3⟩
      have hb03 := below_chain hb01 hb3
      have hx3 := hx1.below hb3
      have hz3 := hz1.below hb3
      clear k0 k1 k2 hb1 hb10 hb01 hb3 hx1 hz1 hK hF
      go_wp2_with fail
      refine (hG _).out.mono ?_
      rintro e w4 ⟨rfl, hw4⟩
      subst hw4
      clear hA hG
      obtain ⟨p0, p1, p2⟩ := hx3.below (bdrew (Below.refl _ _))
      obtain ⟨x0, x1, x2, -, -, -⟩ := hz3.below (bdrew (Below.refl _ _))
      have p6 : Below w3.heap.size w3 w3.drew := bdrew (Below.refl _ _)
      have hA1 := hR1' w3 g (.string ⟨#[]⟩) (.slice none 0 0) (.slice none 0 0) hb03
      have hA2 := hR2' w3 g (.string ⟨#[]⟩) (.slice none 0 0) (.slice none 0 0) hb03
      clear hR1' hR2' hx3 hz3
      go_wp2
      go_region_held3 (fun w' => w'.cell? ⟨w.heap.size, 0, none⟩ = some (.string (S n)) ∧ w'.cell? ⟨w.heap.size, 1, none⟩ = some (.slice P fs.length cp) ∧ w'.cell? ⟨w.heap.size, 2, none⟩ = some (.slice Q ss.length cq) ∧ w'.cell? ⟨g, 0, none⟩ = some (.string ⟨#[]⟩) ∧ w'.cell? ⟨g, 1, none⟩ = some (.slice none 0 0) ∧ w'.cell? ⟨g, 2, none⟩ = some (.slice none 0 0) ∧ Below w3.heap.size w3 w') (first | exact ⟨p0, p1, p2, x0, x1, x2, p6⟩ | exact ⟨by assumption, by assumption, by assumption, by assumption, by assumption, by assumption, by assumption⟩ | go_keep)
        (first
          | (go_at_call 12; refine (hA1 _ ?_).out.mono ?_; (first | exact ⟨by assumption, by assumption, by assumption, by assumption, by assumption, by assumption, by assumption⟩); rintro e w' ⟨rfl, k0, k1, k2, k3, k4, k5, k6⟩)
          | (go_at_call 13; refine (hA2 _ ?_).out.mono ?_; (first | exact ⟨by assumption, by assumption, by assumption, by assumption, by assumption, by assumption, by assumption⟩); rintro e w' ⟨rfl, k0, k1, k2, k3, k4, k5, k6⟩))
      all_goals
        have hb04 := below_chain hb03 k6
        go_wp2_with fail
        refine (hZ _).out.mono ?_
        rintro e w9 ⟨rfl, hb9⟩
        go_wp2
        go_ret
        exact ⟨rfl, below_chain hb04 hb9⟩
    · have e3 : askErr es m = fault es := by rw [askErr, if_neg hf]
      rw [e3] at hK
      have c1 : (fault es == 0) = false := beq_eq_false_iff_ne.2 hf
      generalize fault es = r at *
      clear h0 hf e3 hm hes hml hG
      go_enter Try.func3, Try.ntmps3
      go_wp2_with fail
      refine (hK _ (hA.alloc _)).out.mono ?_
      rintro e w1 ⟨rfl, hb1⟩
      have hx1 := ((PBox.mk k0 k1 k2).below hb1).alloc (.cells #[.string ⟨#[]⟩, .slice none 0 0, .slice none 0 0] 25)
      have hb10 : Below w.heap.size w w1 := below_chain ((Below.refl _ _).alloc (Nat.le_refl _) _) hb1
      have hb01 : Below w.heap.size w (w1.alloc (.cells #[.string ⟨#[]⟩, .slice none 0 0, .slice none 0 0] 25)) := hb10.alloc hb10.size _
      have hz1 := OBox.new w1 (.string ⟨#[]⟩) (.slice none 0 0) (.slice none 0 0) 25
      go_wp2_with fail
      generalize w1.alloc (.cells #[.string ⟨#[]⟩, .slice none 0 0, .slice none 0 0] 25) = w2 at *
      generalize w1.heap.size = g at *
      refine (hF _ (hA.below hb01)).out.mono ?_
      rintro e w3 ⟨rfl, hb3⟩
      have hb03 := below_chain hb01 hb3
      have hx3 := hx1.below hb3
      have hz3 := hz1.below hb3
      clear k0 k1 k2 hb1 hb10 hb01 hb3 hx1 hz1 hK hF hA
      obtain ⟨p0, p1, p2⟩ := hx3.below (bdrew (Below.refl _ _))
      obtain ⟨x0, x1, x2, -, -, -⟩ := hz3.below (bdrew (Below.refl _ _))
      have p6 : Below w3.heap.size w3 w3.drew := bdrew (Below.refl _ _)
      have hA1 := hR1' w3 g (.string ⟨#[]⟩) (.slice none 0 0) (.slice none 0 0) hb03
      have hA2 := hR2' w3 g (.string ⟨#[]⟩) (.slice none 0 0) (.slice none 0 0) hb03
      clear hR1' hR2' hx3 hz3
      go_wp2
      go_region_held3 (fun w' => w'.cell? ⟨w.heap.size, 0, none⟩ = some (.string (S n)) ∧ w'.cell? ⟨w.heap.size, 1, none⟩ = some (.slice P fs.length cp) ∧ w'.cell? ⟨w.heap.size, 2, none⟩ = some (.slice Q ss.length cq) ∧ w'.cell? ⟨g, 0, none⟩ = some (.string ⟨#[]⟩) ∧ w'.cell? ⟨g, 1, none⟩ = some (.slice none 0 0) ∧ w'.cell? ⟨g, 2, none⟩ = some (.slice none 0 0) ∧ Below w3.heap.size w3 w') (first | exact ⟨p0, p1, p2, x0, x1, x2, p6⟩ | exact ⟨by assumption, by assumption, by assumption, by assumption, by assumption, by assumption, by assumption⟩ | go_keep)
        (first
          | (go_at_call 12; refine (hA1 _ ?_).out.mono ?_; (first | exact ⟨by assumption, by assumption, by assumption, by assumption, by assumption, by assumption, by assumption⟩); rintro e w' ⟨rfl, k0, k1, k2, k3, k4, k5, k6⟩)
          | (go_at_call 13; refine (hA2 _ ?_).out.mono ?_; (first | exact ⟨by assumption, by assumption, by assumption, by assumption, by assumption, by assumption, by assumption⟩); rintro e w' ⟨rfl, k0, k1, k2, k3, k4, k5, k6⟩))
      all_goals
        have hb04 := below_chain hb03 k6
        go_wp2_with fail
        refine (hZ _).out.mono ?_
        rintro e w9 ⟨rfl, hb9⟩
        go_wp2
        go_ret
        exact ⟨rfl, below_chain hb04 hb9⟩

set_option maxRecDepth 100000 in
theorem proofMakes_lifted (os : Os) (started : os.Started) (H : Type) (enc : TypeId × Value → H) :
    ReturnsInHanded {} Try.checked os 3 .any (Rows.proofMakesSpec.pre6 enc Try.prog Try.f3 Rows.proofMakesRow.domain false) (Rows.proofMakesSpec.post enc Try.prog Try.f3 false true false false) := by
  refine returnsInHanded_of_change (C := Try.checked) own started (by kernel_rfl) Try.func3
    (ChangeSpec.witness6 (enc := enc) (C := Try.checked) false ⟨#[], #[.slice none 0 0, .string ⟨#[]⟩, .agg #[.string ⟨#[]⟩, .slice none 0 0, .slice none 0 0]], []⟩ 8 (by kernel_rfl) (by kernel_rfl) (by kernel_rfl) (by kernel_rfl)) ?_
  intro W base args ds gs before hval0 hW hcnd _
  have hval : ∀ (j : Nat) t v, Try.f3.params[j]? = some t → args[j]? = some v → Value.okWide Try.prog W .any base t v := hval0
  have hW' := hW
  obtain ⟨p, q, hA0, hV, rfl, hfz, hnd⟩ := hW
  have hA : DataW.TrodAll enc Try.prog W 0 (fun _ => true) true Try.f3.params.toList args.toList ds p := hA0
  rw [Try.params3] at hA hval
  obtain ⟨v0, vs0, d0, ds0, p0, q0, hargs, rfl, rfl, h0, r0⟩ := trodAll_cons hA
  obtain ⟨v1, vs1, d1, ds1, p1, q1, rfl, rfl, rfl, h1, r1⟩ := trodAll_cons r0
  obtain ⟨v2, vs2, d2, ds2, p2, q2, rfl, rfl, rfl, h2, r2⟩ := trodAll_cons r1
  obtain ⟨rfl, rfl, rfl⟩ := trodAll_nil r2
  obtain rfl : args = #[v0, v1, v2] := by cases args; simp_all
  obtain ⟨rfl, rfl⟩ := trodVars_none hV
  obtain ⟨A0, c0, s0, rfl, hm0, hr0, hs0, hc0, -⟩ := arg_ents (hval 0 22 v0 rfl rfl) h0
  obtain ⟨l1, rfl, hl1⟩ := arg_str (hval 1 9 v1 rfl rfl) h1
  obtain ⟨n2, A2, c2, e2, B2, d2, s2, rfl, hn2, hm2, hr2, hs2, hc2, km2, kr2, ks2, kc2⟩ := arg_prf (hval 2 25 v2 rfl rfl) h2
  refine (proofMakes_walk A0 c0 s0 l1 n2 e2 s2 A2 B2 c2 d2 _ hm0 hs0 hl1 hr0 hn2 hm2 hs2 km2 hr2 kr2).mono fun e W' ⟨he, hb⟩ => ?_
  subst he
  exact ⟨_, rfl, post_law laidOut (by decide +kernel) rfl Try.underlying4 (by kernel_rfl) hW' rfl hb⟩

/-- The statement. -/
theorem proofMakes_said : Rows.ProofMakesSaid :=
  OpenClaim.holds_of_wide 3 Try.f3 rfl rfl rfl rfl rfl rfl rfl ⟨rfl, rfl, rfl, rfl, rfl⟩ rfl rfl rfl rfl rfl (by kernel_rfl) Try.func3 (by kernel_rfl)
    (of_decide_eq_true (by kernel_rfl)) (by unfold Func.isWrapper; first | (rw [if_pos (by decide +kernel)]; kernel_rfl) | (rw [if_neg (by decide +kernel)]; exact ⟨rfl, rfl⟩))
    (fun os started H enc _ => proofMakes_lifted os started H enc)
#print axioms proofMakes_said
end Go.Proofs.Ytjifggnmjhfgfaa
