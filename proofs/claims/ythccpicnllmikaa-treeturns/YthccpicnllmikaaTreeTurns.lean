/- TreeTurns: setting two names in either order gives the same book and the same root. -/
import Derived.Test.YthccpicnllmikaaTreeLive
import Derived.Test.YthccpicnllmikaaTreeAt
import Derived.Test.YthccpicnllmikaaEqEnts
import Derived.Test.YthccpicnllmikaaGood
import Derived.Test.YthccpicnllmikaaArgs
import Derived.Test.YthccpicnllmikaaLaw
namespace Go.Proofs.Ythccpicnllmikaa
open Go.ChangeShapes Go.WideShapes Go.ChangeAt Go.RowKit

/-- What Set returns: the book, or nothing with an error. -/
def setRes (es : List Ent) (n v : Bytes) : List Ent := if setErr es n v = 0 then setTo n v es else []
def SetRes (T : List Ent) (r : Int) (w : World) (e : Ending) (w' : World) : Prop :=
  ∃ D d, e = .returned (.tuple #[.slice D T.length d, .int .i64 r]) ∧ T.length ≤ d ∧ Row w' D (encells T) ∧ Below w.heap.size w w'
theorem treeSet_any (A : Option Addr) (c : Nat) (es : List Ent) (n v : Bytes) (w : World) (hm : es.length ≤ maxLen) (hes : ∀ x ∈ es, x.1.length ≤ maxLen ∧ x.2.length ≤ maxLen) (hn : n.length ≤ maxLen) (hv : v.length ≤ maxLen) (hc : es.length ≤ c) (hA : Row w A (encells es)) :
    Calls Try.prog 9 #[.slice A es.length c, .string (S n), .string (S v)] w (SetRes (setRes es n v) (setErr es n v) w) := by
  by_cases h0 : setErr es n v = 0
  · rw [setRes, if_pos h0, h0]
    refine (treeSet_yes A c es n v w hc hA h0).mono ?_
    rintro e w' ⟨D, d, rfl, hown, hb⟩
    exact ⟨D, d, rfl, own_capE hown, Row.ownE hown, hb⟩
  · rw [setRes, if_neg h0]
    refine (treeSet_no A c es n v w hm hes hn hv hA _ rfl h0).mono ?_
    rintro e w' ⟨rfl, hb⟩
    exact ⟨none, 0, rfl, Nat.le_refl _, Row.nil_ _ _, hb⟩
theorem setT_good {es : List Ent} {n v : Bytes} (h : setErr es n v = 0) : Good (setTo n v es) := by
  obtain ⟨hg, hn, hv, ht⟩ := (setErr_ok es n v).1 h
  refine setTo_good n v es hg hn hv ?_
  rw [← there_stands n es hg.order]
  exact ht
theorem setRes_small (es : List Ent) (n v : Bytes) : (setRes es n v).length ≤ maxLen ∧ ∀ x ∈ setRes es n v, x.1.length ≤ maxLen ∧ x.2.length ≤ maxLen := by
  by_cases h0 : setErr es n v = 0
  · rw [setRes, if_pos h0]
    exact small_of_good (setT_good h0)
  · rw [setRes, if_neg h0]
    exact ⟨by simp, fun x hx => by simp at hx⟩

theorem good_4 (a b c d : Int) (w : World) (g : Nat) (t : TypeId) (hg : g = w.heap.size) (r : Bool) (hr : allOk [a, b, c, d] = r) :
    Calls Try.prog 27 #[.slice (some ⟨g, 0, none⟩) 4 4] (w.alloc (.cells #[.int .i64 a, .int .i64 b, .int .i64 c, .int .i64 d] t)) fun e w' => e = .returned (.bool r) ∧ w.alloc (.cells #[.int .i64 a, .int .i64 b, .int .i64 c, .int .i64 d] t) = w' :=
  good_any (some ⟨g, 0, none⟩) 4 [a, b, c, d] _ (by simp) r hr (Row.new w g _ _ t hg rfl)
theorem good_20 (w : World) (g : Nat) (t : TypeId) (hg : g = w.heap.size) :
    Calls Try.prog 27 #[.slice (some ⟨g, 0, none⟩) 2 2] (w.alloc (.cells #[.int .i64 0, .int .i64 0] t)) fun e w' => e = .returned (.bool true) ∧ w.alloc (.cells #[.int .i64 0, .int .i64 0] t) = w' :=
  good_any (some ⟨g, 0, none⟩) 2 [0, 0] _ (by simp) true rfl (Row.new w g _ _ t hg rfl)

/-- Two entries in their boxes. -/
structure Boxes (w : World) (g : Nat) (a u b v : Bytes) : Prop where
  a0 : w.cell? ⟨g, 0, none⟩ = some (.string (S a))
  a1 : w.cell? ⟨g, 1, none⟩ = some (.string (S u))
  b0 : w.cell? ⟨g + 1, 0, none⟩ = some (.string (S b))
  b1 : w.cell? ⟨g + 1, 1, none⟩ = some (.string (S v))
theorem Boxes.below {w w' : World} {g : Nat} {a u b v : Bytes} (h : Boxes w g a u b v) (hb : Below w.heap.size w w') : Boxes w' g a u b v := ⟨kept h.a0 hb, kept h.a1 hb, kept h.b0 hb, kept h.b1 hb⟩
theorem Boxes.new (w : World) (a u b v : Bytes) (t : TypeId) : Boxes ((w.alloc (.cells #[.string (S a), .string (S u)] t)).alloc (.cells #[.string (S b), .string (S v)] t)) w.heap.size a u b v := by
  have h1 : ∀ k, ((w.alloc (.cells #[.string (S a), .string (S u)] t)).alloc (.cells #[.string (S b), .string (S v)] t)).cell? ⟨w.heap.size, k, none⟩ = (w.alloc (.cells #[.string (S a), .string (S u)] t)).cell? ⟨w.heap.size, k, none⟩ := fun k => World.cell?_alloc_lt _ _ _ (by simp)
  have e : w.heap.size + 1 = (w.alloc (.cells #[.string (S a), .string (S u)] t)).heap.size := by simp
  refine ⟨?_, ?_, ?_, ?_⟩
  · rw [h1, World.cell?_alloc_new]; rfl
  · rw [h1, World.cell?_alloc_new]; rfl
  · rw [e, World.cell?_alloc_new]; rfl
  · rw [e, World.cell?_alloc_new]; rfl

set_option maxRecDepth 100000 in
set_option maxHeartbeats 2000000 in
theorem treeTurns_walk (A : Option Addr) (c : Nat) (es : List Ent) (a u b v : Bytes) (w : World) (hm : es.length ≤ maxLen) (hes : ∀ x ∈ es, x.1.length ≤ maxLen ∧ x.2.length ≤ maxLen) (hc : es.length ≤ c) (ha : a.length ≤ maxLen) (hu : u.length ≤ maxLen) (hb : b.length ≤ maxLen) (hv : v.length ≤ maxLen) (hA : Row w A (encells es)) :
    Calls Try.prog 6 #[.slice A es.length c, .agg #[.string (S a), .string (S u)], .agg #[.string (S b), .string (S v)]] w fun e w' => e = .returned (.bool true) ∧ Below w.heap.size w w' := by
  have hL := fun w => Lib.hid (trees w)
  obtain ⟨hm1, hes1⟩ := setRes_small es a u
  obtain ⟨hm2, hes2⟩ := setRes_small es b v
  have hS1 := fun (w : World) hA => Lib.hid (treeSet_any A c es a u w hm hes ha hu hc hA)
  have hS2 := fun (D : Option Addr) (d : Nat) (w : World) hc hA => Lib.hid (treeSet_any D d (setRes es a u) b v w hm1 hes1 hb hv hc hA)
  have hS3 := fun (w : World) hA => Lib.hid (treeSet_any A c es b v w hm hes hb hv hc hA)
  have hS4 := fun (D : Option Addr) (d : Nat) (w : World) hc hA => Lib.hid (treeSet_any D d (setRes es b v) a u w hm2 hes2 ha hu hc hA)
  have hG := fun w g t hg => Lib.hid (good_4 (setErr es a u) (setErr (setRes es a u) b v) (setErr es b v) (setErr (setRes es b v) a u) w g t hg _ rfl)
  have hcase : allOk [setErr es a u, setErr (setRes es a u) b v, setErr es b v, setErr (setRes es b v) a u] = false ∨ (allOk [setErr es a u, setErr (setRes es a u) b v, setErr es b v, setErr (setRes es b v) a u] = true ∧ ((a == b) = true ∨ (a == b) = false ∧ Good (setRes (setRes es a u) b v) ∧ setRes (setRes es b v) a u = setRes (setRes es a u) b v)) := by
    cases hok : allOk [setErr es a u, setErr (setRes es a u) b v, setErr es b v, setErr (setRes es b v) a u] with
    | false => exact .inl rfl
    | true =>
      refine .inr ⟨rfl, ?_⟩
      simp only [allOk, List.all_cons, List.all_nil, Bool.and_true, Bool.and_eq_true, beq_iff_eq] at hok
      obtain ⟨h1, h2, h3, h4⟩ := hok
      by_cases e : a = b
      · exact .inl (beq_iff_eq.2 e)
      · refine .inr ⟨beq_eq_false_iff_ne.2 e, ?_, ?_⟩
        · rw [setRes, if_pos h2]; exact setT_good h2
        · rw [setRes, if_pos h4, setRes.eq_1 (setRes es a u), if_pos h2, setRes, if_pos h3, setRes, if_pos h1]
          exact (setTo_comm a b u v es e).symm
  rcases hcase with hok | ⟨hok, hq | ⟨hq, hg, hUT⟩⟩
  · rw [hok] at hG
    generalize setErr (setRes es b v) a u = r4 at *
    generalize setErr (setRes es a u) b v = r2 at *
    generalize setErr es a u = r1 at *
    generalize setErr es b v = r3 at *
    generalize setRes (setRes es b v) a u = U2 at *
    generalize setRes (setRes es a u) b v = T2 at *
    generalize setRes es a u = T1 at *
    generalize setRes es b v = U1 at *
    clear hok hm1 hes1 hm2 hes2 hm hes hc ha hu hb hv
    go_enter Try.func6, Try.ntmps6
    go_wp2_with fail
    refine (hL _).out.mono ?_
    rintro e w1 ⟨rfl, hb1⟩
    have hx := (Boxes.new w a u b v 35).below hb1
    have hb01 : Below w.heap.size w w1 := below_chain (balloc (balloc (Below.refl _ _) _) _) hb1
    clear hb1 hL
    obtain ⟨k0, k1, k2, k3⟩ := hx
    go_wp2_with fail
    refine (hS1 _ (hA.below hb01)).out.mono ?_
    rintro e w2 ⟨D2, d2, rfl, hc2, hr2, hb2⟩
    have hx2 := (Boxes.mk k0 k1 k2 k3).below hb2
    have hb02 := below_chain hb01 hb2
    clear hS1 k0 k1 k2 k3
    obtain ⟨k0, k1, k2, k3⟩ := hx2
    go_wp2_with fail
    refine (hS2 D2 d2 _ hc2 hr2).out.mono ?_
    rintro e w3 ⟨D3, d3, rfl, hc3, hr3, hb3⟩
    have hx3 := (Boxes.mk k0 k1 k2 k3).below hb3
    have hb03 := below_chain hb02 hb3
    clear hS2 k0 k1 k2 k3 hr2 hc2
    obtain ⟨k0, k1, k2, k3⟩ := hx3
    go_wp2_with fail
    refine (hS3 _ (hA.below hb03)).out.mono ?_
    rintro e w4 ⟨D4, d4, rfl, hc4, hr4, hb4⟩
    have hx4 := (Boxes.mk k0 k1 k2 k3).below hb4
    have hb04 := below_chain hb03 hb4
    have hr34 := hr3.below hb4
    clear hS3 k0 k1 k2 k3 hr3
    obtain ⟨k0, k1, k2, k3⟩ := hx4
    go_wp2_with fail
    refine (hS4 D4 d4 _ hc4 hr4).out.mono ?_
    rintro e w5 ⟨D5, d5, rfl, hc5, hr5, hb5⟩
    have hx5 := (Boxes.mk k0 k1 k2 k3).below hb5
    have hb05 := below_chain hb04 hb5
    have hr35 := hr34.below hb5
    clear hS4 k0 k1 k2 k3 hr34 hr4 hc4
    obtain ⟨k0, k1, k2, k3⟩ := hx5
    go_wp2_with fail
    refine (hG _ _ _ rfl).out.mono ?_
    rintro e w6 ⟨rfl, hw6⟩
    have hb6 : Below w5.heap.size w5 w6 := by rw [← hw6]; exact balloc (Below.refl _ _) _
    have hx6 := (Boxes.mk k0 k1 k2 k3).below hb6
    have hb06 := below_chain hb05 hb6
    have hr36 := hr35.below hb6
    have hr56 := hr5.below hb6
    clear hG k0 k1 k2 k3 hr35 hr5 hw6
    obtain ⟨k0, k1, k2, k3⟩ := hx6
    go_wp2
    go_ret
    exact ⟨rfl, hb06⟩
  · rw [hok] at hG
    generalize setErr (setRes es b v) a u = r4 at *
    generalize setErr (setRes es a u) b v = r2 at *
    generalize setErr es a u = r1 at *
    generalize setErr es b v = r3 at *
    generalize setRes (setRes es b v) a u = U2 at *
    generalize setRes (setRes es a u) b v = T2 at *
    generalize setRes es a u = T1 at *
    generalize setRes es b v = U1 at *
    clear hok hm1 hes1 hm2 hes2 hm hes hc ha hu hb hv
    go_enter Try.func6, Try.ntmps6
    go_wp2_with fail
    refine (hL _).out.mono ?_
    rintro e w1 ⟨rfl, hb1⟩
    have hx := (Boxes.new w a u b v 35).below hb1
    have hb01 : Below w.heap.size w w1 := below_chain (balloc (balloc (Below.refl _ _) _) _) hb1
    clear hb1 hL
    obtain ⟨k0, k1, k2, k3⟩ := hx
    go_wp2_with fail
    refine (hS1 _ (hA.below hb01)).out.mono ?_
    rintro e w2 ⟨D2, d2, rfl, hc2, hr2, hb2⟩
    have hx2 := (Boxes.mk k0 k1 k2 k3).below hb2
    have hb02 := below_chain hb01 hb2
    clear hS1 k0 k1 k2 k3
    obtain ⟨k0, k1, k2, k3⟩ := hx2
    go_wp2_with fail
    refine (hS2 D2 d2 _ hc2 hr2).out.mono ?_
    rintro e w3 ⟨D3, d3, rfl, hc3, hr3, hb3⟩
    have hx3 := (Boxes.mk k0 k1 k2 k3).below hb3
    have hb03 := below_chain hb02 hb3
    clear hS2 k0 k1 k2 k3 hr2 hc2
    obtain ⟨k0, k1, k2, k3⟩ := hx3
    go_wp2_with fail
    refine (hS3 _ (hA.below hb03)).out.mono ?_
    rintro e w4 ⟨D4, d4, rfl, hc4, hr4, hb4⟩
    have hx4 := (Boxes.mk k0 k1 k2 k3).below hb4
    have hb04 := below_chain hb03 hb4
    have hr34 := hr3.below hb4
    clear hS3 k0 k1 k2 k3 hr3
    obtain ⟨k0, k1, k2, k3⟩ := hx4
    go_wp2_with fail
    refine (hS4 D4 d4 _ hc4 hr4).out.mono ?_
    rintro e w5 ⟨D5, d5, rfl, hc5, hr5, hb5⟩
    have hx5 := (Boxes.mk k0 k1 k2 k3).below hb5
    have hb05 := below_chain hb04 hb5
    have hr35 := hr34.below hb5
    clear hS4 k0 k1 k2 k3 hr34 hr4 hc4
    obtain ⟨k0, k1, k2, k3⟩ := hx5
    go_wp2_with fail
    refine (hG _ _ _ rfl).out.mono ?_
    rintro e w6 ⟨rfl, hw6⟩
    have hb6 : Below w5.heap.size w5 w6 := by rw [← hw6]; exact balloc (Below.refl _ _) _
    have hx6 := (Boxes.mk k0 k1 k2 k3).below hb6
    have hb06 := below_chain hb05 hb6
    have hr36 := hr35.below hb6
    have hr56 := hr5.below hb6
    clear hG k0 k1 k2 k3 hr35 hr5 hw6
    obtain ⟨k0, k1, k2, k3⟩ := hx6
    go_wp2
    go_ret
    exact ⟨rfl, hb06⟩
  · rw [hok] at hG
    rw [hUT] at hS4
    have hR := fun (D : Option Addr) (d : Nat) (w : World) hA => Lib.hid (treeRoot_yes D d (setRes (setRes es a u) b v) w hg hA _ rfl)
    have hE := fun (D F : Option Addr) (d f : Nat) (w : World) hA hC => Lib.hid (eqEnts D F d f (setRes (setRes es a u) b v) (setRes (setRes es a u) b v) w (small_of_good hg).1 true (by simp) hA hC)
    have hG2 := fun w g t hg => Lib.hid (good_20 w g t hg)
    generalize prefMark (setRes (setRes es a u) b v) [] = x at *
    generalize setErr (setRes es b v) a u = r4 at *
    generalize setErr (setRes es a u) b v = r2 at *
    generalize setErr es a u = r1 at *
    generalize setErr es b v = r3 at *
    clear hok hm1 hes1 hm2 hes2 hm hes hc ha hu hb hv hUT hg
    generalize setRes (setRes es a u) b v = T2 at *
    generalize setRes es a u = T1 at *
    generalize setRes es b v = U1 at *
    go_enter Try.func6, Try.ntmps6
    go_wp2_with fail
    refine (hL _).out.mono ?_
    rintro e w1 ⟨rfl, hb1⟩
    have hx := (Boxes.new w a u b v 35).below hb1
    have hb01 : Below w.heap.size w w1 := below_chain (balloc (balloc (Below.refl _ _) _) _) hb1
    clear hb1 hL
    obtain ⟨k0, k1, k2, k3⟩ := hx
    go_wp2_with fail
    refine (hS1 _ (hA.below hb01)).out.mono ?_
    rintro e w2 ⟨D2, d2, rfl, hc2, hr2, hb2⟩
    have hx2 := (Boxes.mk k0 k1 k2 k3).below hb2
    have hb02 := below_chain hb01 hb2
    clear hS1 k0 k1 k2 k3
    obtain ⟨k0, k1, k2, k3⟩ := hx2
    go_wp2_with fail
    refine (hS2 D2 d2 _ hc2 hr2).out.mono ?_
    rintro e w3 ⟨D3, d3, rfl, hc3, hr3, hb3⟩
    have hx3 := (Boxes.mk k0 k1 k2 k3).below hb3
    have hb03 := below_chain hb02 hb3
    clear hS2 k0 k1 k2 k3 hr2 hc2
    obtain ⟨k0, k1, k2, k3⟩ := hx3
    go_wp2_with fail
    refine (hS3 _ (hA.below hb03)).out.mono ?_
    rintro e w4 ⟨D4, d4, rfl, hc4, hr4, hb4⟩
    have hx4 := (Boxes.mk k0 k1 k2 k3).below hb4
    have hb04 := below_chain hb03 hb4
    have hr34 := hr3.below hb4
    clear hS3 k0 k1 k2 k3 hr3
    obtain ⟨k0, k1, k2, k3⟩ := hx4
    go_wp2_with fail
    refine (hS4 D4 d4 _ hc4 hr4).out.mono ?_
    rintro e w5 ⟨D5, d5, rfl, hc5, hr5, hb5⟩
    have hx5 := (Boxes.mk k0 k1 k2 k3).below hb5
    have hb05 := below_chain hb04 hb5
    have hr35 := hr34.below hb5
    clear hS4 k0 k1 k2 k3 hr34 hr4 hc4
    obtain ⟨k0, k1, k2, k3⟩ := hx5
    go_wp2_with fail
    refine (hG _ _ _ rfl).out.mono ?_
    rintro e w6 ⟨rfl, hw6⟩
    have hb6 : Below w5.heap.size w5 w6 := by rw [← hw6]; exact balloc (Below.refl _ _) _
    have hx6 := (Boxes.mk k0 k1 k2 k3).below hb6
    have hb06 := below_chain hb05 hb6
    have hr36 := hr35.below hb6
    have hr56 := hr5.below hb6
    clear hG k0 k1 k2 k3 hr35 hr5 hw6
    obtain ⟨k0, k1, k2, k3⟩ := hx6
    go_wp2_with fail
    refine (hR D3 d3 _ hr36).out.mono ?_
    rintro e w7 ⟨rfl, hb7⟩
    go_wp2_with fail
    refine (hR D5 d5 _ (hr56.below hb7)).out.mono ?_
    rintro e w8 ⟨rfl, hb8⟩
    have hb68 := below_chain hb7 hb8
    go_wp2_with fail
    refine (hE D3 D5 d3 d5 _ (hr36.below hb68) (hr56.below hb68)).out.mono ?_
    rintro e w9 ⟨rfl, m9, rfl⟩
    go_wp2_with fail
    refine (hG2 _ _ _ rfl).out.mono ?_
    rintro e w10 ⟨rfl, rfl⟩
    go_wp2
    go_ret
    exact ⟨rfl, balloc (below_drewN (below_chain hb06 hb68) _) _⟩

set_option maxRecDepth 100000 in
theorem treeTurns_lifted (os : Os) (started : os.Started) (H : Type) (enc : TypeId × Value → H) :
    ReturnsInHanded {} Try.checked os 6 .any (Rows.treeTurnsSpec.pre6 enc Try.prog Try.f6 Rows.treeTurnsRow.domain false) (Rows.treeTurnsSpec.post enc Try.prog Try.f6 false true false false) := by
  refine returnsInHanded_of_change (C := Try.checked) own started (by kernel_rfl) Try.func6
    (ChangeSpec.witness6 (enc := enc) (C := Try.checked) false ⟨#[], #[.slice none 0 0, .agg #[.string ⟨#[]⟩, .string ⟨#[]⟩], .agg #[.string ⟨#[]⟩, .string ⟨#[]⟩]], []⟩ 8 (by kernel_rfl) (by kernel_rfl) (by kernel_rfl) (by kernel_rfl)) ?_
  intro W base args ds gs before hval0 hW hcnd _
  have hval : ∀ (j : Nat) t v, Try.f6.params[j]? = some t → args[j]? = some v → Value.okWide Try.prog W .any base t v := hval0
  have hW' := hW
  obtain ⟨p, q, hA0, hV, rfl, hfz, hnd⟩ := hW
  have hA : DataW.TrodAll enc Try.prog W 0 (fun _ => true) true Try.f6.params.toList args.toList ds p := hA0
  rw [Try.params6] at hA hval
  obtain ⟨v0, vs0, d0, ds0, p0, q0, hargs, rfl, rfl, h0, r0⟩ := trodAll_cons hA
  obtain ⟨v1, vs1, d1, ds1, p1, q1, rfl, rfl, rfl, h1, r1⟩ := trodAll_cons r0
  obtain ⟨v2, vs2, d2, ds2, p2, q2, rfl, rfl, rfl, h2, r2⟩ := trodAll_cons r1
  obtain ⟨rfl, rfl, rfl⟩ := trodAll_nil r2
  obtain rfl : args = #[v0, v1, v2] := by cases args; simp_all
  obtain ⟨rfl, rfl⟩ := trodVars_none hV
  obtain ⟨A0, c0, s0, rfl, hm0, hr0, hs0, hc0, -⟩ := arg_ents (hval 0 22 v0 rfl rfl) h0
  obtain ⟨a1, b1, rfl, ha1, hb1⟩ := arg_ent (hval 1 35 v1 rfl rfl) h1
  obtain ⟨a2, b2, rfl, ha2, hb2⟩ := arg_ent (hval 2 35 v2 rfl rfl) h2
  refine (treeTurns_walk A0 c0 s0 a1 b1 a2 b2 W hm0 hs0 hc0 ha1 hb1 ha2 hb2 hr0).mono fun e W' ⟨he, hb⟩ => ?_
  subst he
  exact ⟨_, rfl, post_law laidOut (by decide +kernel) rfl Try.underlying4 (by kernel_rfl) hW' rfl hb⟩

/-- The statement. -/
theorem treeTurns_said : Rows.TreeTurnsSaid :=
  OpenClaim.holds_of_wide 6 Try.f6 rfl rfl rfl rfl rfl rfl rfl ⟨rfl, rfl, rfl, rfl, rfl⟩ rfl rfl rfl rfl rfl (by kernel_rfl) Try.func6 (by kernel_rfl)
    (of_decide_eq_true (by kernel_rfl)) (by unfold Func.isWrapper; first | (rw [if_pos (by decide +kernel)]; kernel_rfl) | (rw [if_neg (by decide +kernel)]; exact ⟨rfl, rfl⟩))
    (fun os started H enc _ => treeTurns_lifted os started H enc)
#print axioms treeTurns_said
end Go.Proofs.Ythccpicnllmikaa
