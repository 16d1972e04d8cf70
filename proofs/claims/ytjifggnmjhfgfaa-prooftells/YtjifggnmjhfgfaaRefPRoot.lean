/- The reference: ProofRoot returns the hash of the last preimage, SameProof whether two proofs are the same. They write nothing that was there. -/
import Derived.Test.YtjifggnmjhfgfaaRefPSaid
namespace Go.Proofs.Ytjifggnmjhfgfaa
set_option maxRecDepth 100000
open Go.RowKit

set_option maxRecDepth 100000 in
set_option maxHeartbeats 800000 in
theorem refPRoot (n : Bytes) (es : List Ent) (ss : List Nat) (A B : Option Addr) (c d : Nat) (w : World) (hn : n.length ≤ maxLen) (hm : es.length ≤ 1000) (hes : ∀ x ∈ es, x.1.length + x.2.length ≤ 596) (h16 : ss.length = 16) (hlow : lowM ss = true) (hA : Row w A (encells es)) (hB : Row w B (mcells ss)) (x : Nat) (hx : proot n es ss = x) :
    Calls Try.prog 22 #[.agg #[.string (S n), .slice A es.length c, .slice B ss.length d]] w fun e w' => e = .returned (.int .u64 (x : Int)) ∧ Below w.heap.size w w' := by
  have hx0 := PBox.new w n A B es.length c ss.length d 25
  have hS := fun (w : World) hA hB => Lib.hid (refPSaid n es ss A B c d w hn hm hes h16 hlow hA hB)
  have hM := fun w => Lib.hid (refMark (climb n es ss 16) w (climb_le n es ss hm hes 16))
  have HG : Hid ((psaid n es ss)[16]? = some (climb n es ss 16)) := by
    show _ = _
    rw [psaid, List.getElem?_map, List.getElem?_range (by omega)]
    rfl
  have hlen : (psaid n es ss).length = 17 := by rw [psaid, List.length_map, List.length_range]
  rw [proot] at hx
  rw [hx] at hM
  generalize psaid n es ss = T at *
  generalize climb n es ss 16 = s at *
  rw [h16] at hx0 hS ⊢
  clear hes hlow hm hn hx h16
  obtain ⟨k0, k1, k2⟩ := hx0
  go_enter Try.func22, Try.ntmps22
  go_wp2_with fail
  refine (hS _ (hA.alloc _) (hB.alloc _)).out.mono ?_
  rintro e w1 ⟨D, f, rfl, hr, hb1⟩
  obtain ⟨g, off, rfl, h1⟩ := hr.str1 16 s HG.out
  rw [hlen]
  clear hS HG hr hlen
  go_wp2_with fail
  refine (hM _).out.mono ?_
  rintro e w2 ⟨rfl, rfl⟩
  go_wp2
  go_ret
  exact ⟨rfl, below_chain ((Below.refl _ _).alloc (Nat.le_refl _) _) hb1⟩

set_option maxRecDepth 100000 in
set_option maxHeartbeats 800000 in
theorem refSameProof (n n' : Bytes) (es es' : List Ent) (ss ss' : List Nat) (A B A' B' : Option Addr) (c d c' d' : Nat) (w : World) (hm : es.length ≤ maxLen) (hsm : ss.length ≤ maxLen) (hA : Row w A (encells es)) (hB : Row w B (mcells ss)) (hA' : Row w A' (encells es')) (hB' : Row w B' (mcells ss')) (b : Bool) (hb : decide (n = n' ∧ es = es' ∧ ss = ss') = b) :
    Calls Try.prog 14 #[.agg #[.string (S n), .slice A es.length c, .slice B ss.length d], .agg #[.string (S n'), .slice A' es'.length c', .slice B' ss'.length d']] w fun e w' => e = .returned (.bool b) ∧ Below w.heap.size w w' := by
  have hx0 := (PBox.new w n A B es.length c ss.length d 25).alloc (.cells #[.string (S n'), .slice A' es'.length c', .slice B' ss'.length d'] 25)
  have hx1 := PBox.new (w.alloc (.cells #[.string (S n), .slice A es.length c, .slice B ss.length d] 25)) n' A' B' es'.length c' ss'.length d' 25
  have hE := fun (w : World) hA hC b hb => Lib.hid (refSameBook A A' c c' es es' w hm b hb hA hC)
  have hM := fun (w : World) hA hC b hb => Lib.hid (refSameMarks B B' d d' ss ss' w hsm b hb hA hC)
  have hb0 : Below w.heap.size w ((w.alloc (.cells #[.string (S n), .slice A es.length c, .slice B ss.length d] 25)).alloc (.cells #[.string (S n'), .slice A' es'.length c', .slice B' ss'.length d'] 25)) := balloc (balloc (Below.refl _ _) _) _
  have HB := Lib.hid hb
  have e1 : (w.alloc (.cells #[.string (S n), .slice A es.length c, .slice B ss.length d] 25)).heap.size = w.heap.size + 1 := by simp
  rw [e1] at hx1
  obtain ⟨k0, k1, k2⟩ := hx0
  obtain ⟨k3, k4, k5⟩ := hx1
  clear hb e1
  by_cases h1 : n = n'
  · have c1 : (n == n') = true := beq_iff_eq.2 h1
    by_cases h2 : es = es'
    · have hb2 : Hid (b = decide (ss = ss')) := by
        show b = _
        rw [← HB.out]
        exact decide_eq_decide.2 ⟨fun h => h.2.2, fun h => ⟨h1, h2, h⟩⟩
      have hE' := fun (w : World) hA hC => hE w hA hC true (decide_eq_true h2)
      have hM' := fun (w : World) hA hC => hM w hA hC b hb2.out.symm
      clear hE hM HB hb2 h1 h2
      go_enter Try.func14, Try.ntmps14
      go_wp2_with fail
      refine (hE' _ (hA.below hb0) (hA'.below hb0)).out.mono ?_
      rintro e w2 ⟨rfl, m2, hw2⟩
      have hb2 := below_drewN hb0 m2
      rw [← hw2] at hb2
      have g2 : w2.cell? ⟨w.heap.size, 2, none⟩ = some (.slice B ss.length d) := by rw [hw2]; exact k2
      have g5 : w2.cell? ⟨w.heap.size + 1, 2, none⟩ = some (.slice B' ss'.length d') := by rw [hw2]; exact k5
      clear hw2 k0 k1 k2 k3 k4 k5 hb0
      go_wp2_with fail
      refine (hM' _ (hB.below hb2) (hB'.below hb2)).out.mono ?_
      rintro e w3 ⟨rfl, m3, rfl⟩
      go_wp2
      go_ret
      exact ⟨rfl, below_drewN hb2 _⟩
    · have hb2 : Hid (b = false) := by
        show b = _
        rw [← HB.out]
        exact decide_eq_false fun h => h2 h.2.1
      have hE' := fun (w : World) hA hC => hE w hA hC false (decide_eq_false h2)
      clear hE hM HB h1 h2
      go_enter Try.func14, Try.ntmps14
      go_wp2_with fail
      refine (hE' _ (hA.below hb0) (hA'.below hb0)).out.mono ?_
      rintro e w2 ⟨rfl, m2, rfl⟩
      go_wp2
      go_ret
      exact ⟨by rw [hb2.out]; rfl, below_drewN hb0 _⟩
  · have hb2 : Hid (b = false) := by
      show b = _
      rw [← HB.out]
      exact decide_eq_false fun h => h1 h.1
    have c1 : (n == n') = false := beq_eq_false_iff_ne.2 h1
    clear hE hM HB h1
    go_enter Try.func14, Try.ntmps14
    go_wp2
    go_ret
    exact ⟨by rw [hb2.out]; rfl, hb0⟩
end Go.Proofs.Ytjifggnmjhfgfaa
