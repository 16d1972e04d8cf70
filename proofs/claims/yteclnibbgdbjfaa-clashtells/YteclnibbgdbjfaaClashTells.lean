/- ClashTells: Texts and Proofs return what the reference returns. -/
import Derived.Test.YteclnibbgdbjfaaClashProofs
import Derived.Test.YteclnibbgdbjfaaClashLong
import Derived.Test.YteclnibbgdbjfaaConcat
import Derived.Test.YteclnibbgdbjfaaRefClash
import Derived.Test.YteclnibbgdbjfaaArgs
import Derived.Test.YteclnibbgdbjfaaLaw
namespace Go.Proofs.Yteclnibbgdbjfaa
set_option maxRecDepth 100000
open Go.ChangeShapes Go.WideShapes Go.ChangeAt Go.RowKit

theorem below_drew {w w' : World} {m : Nat} (h : w' = w.drewN m) : Below w.heap.size w w' := by subst h; exact below_of_drewN _ _ _
theorem concat_new (w : World) (g : Nat) (hg : g = w.heap.size) (A B : Option Addr) (c d : Nat) (ss tt : List Bytes) (hk : (ss.length + tt.length) * 16 ≤ 281474976710656) (hA : Row w A (scells ss)) (hB : Row w B (scells tt)) :
    Calls Try.prog 9 #[.slice (some ⟨g, 0, none⟩) 2 2] (w.alloc (.cells #[.slice A ss.length c, .slice B tt.length d] 22)) fun e w' => ∃ D f, e = .returned (.slice D (ss ++ tt).length f) ∧ Row w' D (scells (ss ++ tt)) ∧ Below w.heap.size w w' := by
  subst hg
  refine (concat2 w.heap.size A B c d ss tt _ hk (by rw [World.cell?_alloc_new]; rfl) (by rw [World.cell?_alloc_new]; rfl) (hA.alloc _) (hB.alloc _)).mono ?_
  rintro e w' ⟨D, f, rfl, ho, hb⟩
  exact ⟨D, f, rfl, Row.own ho, below_chain ((Below.refl _ _).alloc (Nat.le_refl _) _) hb⟩

set_option maxHeartbeats 4000000 in
theorem clashTells_walk (C D : Option Addr) (e f : Nat) (a b : List Bytes) (n n' : Bytes) (es es' : List Ent) (ss ss' : List Nat) (A B A' B' : Option Addr) (c d c' d' : Nat) (w : World)
    (hma : a.length * 16 ≤ 140737488351232) (hmb : b.length * 16 ≤ 140737488351232) (ha : ∀ s ∈ a, s.length ≤ maxLen) (hb : ∀ s ∈ b, s.length ≤ maxLen)
    (hn : n.length ≤ maxLen) (hm : es.length ≤ maxLen) (hes : ∀ x ∈ es, x.1.length ≤ maxLen ∧ x.2.length ≤ maxLen) (hsm : ss.length ≤ maxLen)
    (hn' : n'.length ≤ maxLen) (hm' : es'.length ≤ maxLen) (hes' : ∀ x ∈ es', x.1.length ≤ maxLen ∧ x.2.length ≤ maxLen) (hsm' : ss'.length ≤ maxLen)
    (hC : Row w C (scells a)) (hD : Row w D (scells b)) (hA : Row w A (encells es)) (hB : Row w B (mcells ss)) (hA' : Row w A' (encells es')) (hB' : Row w B' (mcells ss')) :
    Calls Try.prog 3 #[.slice C a.length e, .slice D b.length f, .agg #[.string (S n), .slice A es.length c, .slice B ss.length d], .agg #[.string (S n'), .slice A' es'.length c', .slice B' ss'.length d']] w fun e w' => e = .returned (.bool true) ∧ Below w.heap.size w w' := by
  have b0 : Below w.heap.size w ((w.alloc (.cells #[.string (S n), .slice A es.length c, .slice B ss.length d] 26)).alloc (.cells #[.string (S n'), .slice A' es'.length c', .slice B' ss'.length d'] 26)) := ((Below.refl _ _).alloc (Nat.le_refl _) _).alloc (by simp) _
  have hx := (PBox.new w n A B es.length c ss.length d 26).alloc (.cells #[.string (S n'), .slice A' es'.length c', .slice B' ss'.length d'] 26)
  have hy := PBox.new (w.alloc (.cells #[.string (S n), .slice A es.length c, .slice B ss.length d] 26)) n' A' B' es'.length c' ss'.length d' 26
  have hsz : (w.alloc (.cells #[.string (S n), .slice A es.length c, .slice B ss.length d] 26)).heap.size = w.heap.size + 1 := by simp
  rw [hsz] at hy
  clear hsz
  have hma' : a.length ≤ maxLen := by unfold maxLen; omega
  obtain ⟨x, y, r, h1⟩ : ∃ x y r, clashOf a b = (x, y, r) := ⟨_, _, _, rfl⟩
  obtain ⟨u, v, z, h2⟩ : ∃ x y r, proofsAns n es ss n' es' ss' = (x, y, r) := ⟨_, _, _, rfl⟩
  have hT := fun (w : World) hA hB => Lib.hid (clashTexts C D e f a b w hma' ha hb hA hB x y r h1)
  have hR := fun (w : World) hA hB => Lib.hid (refClash C D e f a b w hma' ha hb hA hB x y r h1)
  have hP := fun (w : World) hA hB hA' hB' => Lib.hid (clashProofs n n' es es' ss ss' A B A' B' c d c' d' w hn hm hes hsm hn' hm' hes' hsm' hA hB hA' hB' u v z h2)
  have hK := fun (w : World) g hg hA hB => Lib.hid (concat_new w g hg C D e f a b (by omega) hA hB)
  have hmab : ∀ s ∈ a ++ b, s.length ≤ maxLen := fun s hs => (List.mem_append.1 hs).elim (ha s) (hb s)
  have hX := fun (E : Option Addr) (g : Nat) (w : World) hA => Lib.hid (longAny E g (a ++ b) w (by rw [List.length_append]; unfold maxLen; omega) hmab ((a ++ b).any longS) rfl hA)
  have hF1 := fun (w : World) hA hB => Lib.hid (refPFault n es ss A B c d w hn hm hes hsm hA hB _ rfl)
  have hF2 := fun (w : World) hA hB => Lib.hid (refPFault n' es' ss' A' B' c' d' w hn' hm' hes' hsm' hA hB _ rfl)
  have HP : Hid (proofsAns n es ss n' es' ss' = (u, v, z)) := h2
  have HN := Lib.hid hn
  have HN' := Lib.hid hn'
  have HL := Lib.hid hma
  clear h1 h2 hn hn' hm hm' hes hes' hsm hsm' hma' hma hmb ha hb hmab
  generalize (a ++ b).any longS = bl at *
  generalize a ++ b = ab at *
  obtain ⟨k0, k1, k2⟩ := hx
  obtain ⟨j0, j1, j2⟩ := hy
  go_enter Try.func3, Try.ntmps3
  go_wp2_with fail
  refine (hT _ (hC.below b0) (hD.below b0)).out.mono ?_
  rintro e w1 ⟨rfl, m1, hw1⟩
  have hn1 := below_drew hw1
  clear hw1
  have hx := (PBox.mk k0 k1 k2).below hn1
  have hy := (PBox.mk j0 j1 j2).below hn1
  have b1 := below_chain b0 hn1
  clear k0 k1 k2 j0 j1 j2 hn1 hT b0
  obtain ⟨k0, k1, k2⟩ := hx
  obtain ⟨j0, j1, j2⟩ := hy
  go_wp2_with fail
  refine (hP _ (hA.below b1) (hB.below b1) (hA'.below b1) (hB'.below b1)).out.mono ?_
  rintro e w2 ⟨rfl, hn2⟩
  have hx := (PBox.mk k0 k1 k2).below hn2
  have hy := (PBox.mk j0 j1 j2).below hn2
  have b2 := below_chain b1 hn2
  clear k0 k1 k2 j0 j1 j2 hn2 hP b1
  obtain ⟨k0, k1, k2⟩ := hx
  obtain ⟨j0, j1, j2⟩ := hy
  go_wp2_with fail
  refine (hK _ _ rfl (hC.below b2) (hD.below b2)).out.mono ?_
  rintro e w3 ⟨E, eg, rfl, hE, hn3⟩
  have hx := (PBox.mk k0 k1 k2).below hn3
  have hy := (PBox.mk j0 j1 j2).below hn3
  have b3 := below_chain b2 hn3
  clear k0 k1 k2 j0 j1 j2 hn3 hK b2
  obtain ⟨k0, k1, k2⟩ := hx
  obtain ⟨j0, j1, j2⟩ := hy
  go_wp2_with fail
  refine (hX _ _ _ hE).out.mono ?_
  rintro e w4 ⟨rfl, hw4⟩
  have hw := hw4.symm
  subst hw
  clear hw4 hX hE
  cases bl with
  | true =>
    clear hR hF1 hF2 HP HN HN' HL
    go_wp2
    go_ret
    exact ⟨rfl, b3⟩
  | false =>
    go_wp2_with fail
    refine (hR _ (hC.below b3) (hD.below b3)).out.mono ?_
    rintro e w4 ⟨rfl, m4, hw4⟩
    have hn4 := below_drew hw4
    clear hw4
    have hx := (PBox.mk k0 k1 k2).below hn4
    have hy := (PBox.mk j0 j1 j2).below hn4
    have b4 := below_chain b3 hn4
    clear k0 k1 k2 j0 j1 j2 hn4 hR b3
    obtain ⟨k0, k1, k2⟩ := hx
    obtain ⟨j0, j1, j2⟩ := hy
    go_wp2_with fail
    refine (hF1 _ (hA.below b4) (hB.below b4)).out.mono ?_
    rintro e w5 ⟨rfl, hn5⟩
    have hx := (PBox.mk k0 k1 k2).below hn5
    have hy := (PBox.mk j0 j1 j2).below hn5
    have b5 := below_chain b4 hn5
    clear k0 k1 k2 j0 j1 j2 hn5 hF1 b4
    obtain ⟨k0, k1, k2⟩ := hx
    obtain ⟨j0, j1, j2⟩ := hy
    have hp := HP.out
    unfold proofsAns at hp
    by_cases h0 : pfault n es ss = 0
    · rw [if_pos h0] at hp
      rw [h0]
      go_wp2_with fail
      refine (hF2 _ (hA'.below b5) (hB'.below b5)).out.mono ?_
      rintro e w6 ⟨rfl, hn6⟩
      have hx := (PBox.mk k0 k1 k2).below hn6
      have hy := (PBox.mk j0 j1 j2).below hn6
      have b6 := below_chain b5 hn6
      clear k0 k1 k2 j0 j1 j2 hn6 hF2 b5
      obtain ⟨k0, k1, k2⟩ := hx
      obtain ⟨j0, j1, j2⟩ := hy
      by_cases h1 : pfault n' es' ss' = 0
      · rw [if_pos h1] at hp
        rw [h1]
        by_cases h2 : n = n'
        · rw [if_pos h2] at hp
          have c1 : (n == n') = true := beq_iff_eq.2 h2
          have hpg := (pfault_ok _ _ _).1 h0
          have hqg := (pfault_ok _ _ _).1 h1
          have hl1 := hpg.book.len
          have hl2 := hqg.book.len
          have hS1 := fun (w : World) hA hB => Lib.hid (refPSaid n es ss A B c d w HN.out (by omega) (good_5 hpg.book) hpg.len hpg.low hA hB)
          have hS2 := fun (w : World) hA hB => Lib.hid (refPSaid n' es' ss' A' B' c' d' w HN'.out (by omega) (good_5 hqg.book) hqg.len hqg.low hA hB)
          have e1 := psaid_length n es ss
          have e2 := psaid_length n' es' ss'
          have hm1 := psaid_small hpg
          have hm2 := psaid_small hqg
          generalize psaid n es ss = T at *
          generalize psaid n' es' ss' = T' at *
          have hQ := fun (D D' : Option Addr) (e e' : Nat) (w : World) hA hB => Lib.hid (refClash D D' e e' T T' w (by rw [e1]; unfold maxLen; omega) hm1 hm2 hA hB u v z hp)
          rw [e1] at hQ
          rw [e2] at hQ
          clear hm1 hm2 hl1 hl2 hpg hqg h0 h1 h2 hp HP HN HN' HL hC hD
          have bd : Below w6.heap.size w6 w6.drew := bdrew (Below.refl _ _)
          have q0 := kept k0 bd
          have q1 := kept k1 bd
          have q2 := kept k2 bd
          have q3 := kept j0 bd
          have q4 := kept j1 bd
          have q5 := kept j2 bd
          have q6 := below_chain b6 bd
          clear bd
          have hS1' : ∀ W : World, (W.cell? ⟨w.heap.size, 0, none⟩ = some (.string (S n)) ∧ W.cell? ⟨w.heap.size, 1, none⟩ = some (.slice A es.length c) ∧ W.cell? ⟨w.heap.size, 2, none⟩ = some (.slice B ss.length d) ∧ W.cell? ⟨w.heap.size + 1, 0, none⟩ = some (.string (S n')) ∧ W.cell? ⟨w.heap.size + 1, 1, none⟩ = some (.slice A' es'.length c') ∧ W.cell? ⟨w.heap.size + 1, 2, none⟩ = some (.slice B' ss'.length d') ∧ Below w.heap.size w W) → Hid (Calls Try.prog 13 #[.agg #[.string (S n), .slice A es.length c, .slice B ss.length d]] W fun e w' => ∃ D f, e = .returned (.slice D 17 f) ∧ Row w' D (scells T) ∧ Below W.heap.size W w' ∧ w'.cell? ⟨w.heap.size, 0, none⟩ = some (.string (S n)) ∧ w'.cell? ⟨w.heap.size, 1, none⟩ = some (.slice A es.length c) ∧ w'.cell? ⟨w.heap.size, 2, none⟩ = some (.slice B ss.length d) ∧ w'.cell? ⟨w.heap.size + 1, 0, none⟩ = some (.string (S n')) ∧ w'.cell? ⟨w.heap.size + 1, 1, none⟩ = some (.slice A' es'.length c') ∧ w'.cell? ⟨w.heap.size + 1, 2, none⟩ = some (.slice B' ss'.length d') ∧ Below w.heap.size w w') := fun W h => by
            show Calls _ _ _ _ _
            refine (hS1 W (hA.below h.2.2.2.2.2.2) (hB.below h.2.2.2.2.2.2)).out.mono ?_
            rintro e w' ⟨D, f, rfl, hD, hb⟩
            rw [e1]
            exact ⟨D, f, rfl, hD, hb, kept h.1 hb, kept h.2.1 hb, kept h.2.2.1 hb, kept h.2.2.2.1 hb, kept h.2.2.2.2.1 hb, kept h.2.2.2.2.2.1 hb, below_chain h.2.2.2.2.2.2 hb⟩
          have hS2' : ∀ W : World, (W.cell? ⟨w.heap.size, 0, none⟩ = some (.string (S n)) ∧ W.cell? ⟨w.heap.size, 1, none⟩ = some (.slice A es.length c) ∧ W.cell? ⟨w.heap.size, 2, none⟩ = some (.slice B ss.length d) ∧ W.cell? ⟨w.heap.size + 1, 0, none⟩ = some (.string (S n')) ∧ W.cell? ⟨w.heap.size + 1, 1, none⟩ = some (.slice A' es'.length c') ∧ W.cell? ⟨w.heap.size + 1, 2, none⟩ = some (.slice B' ss'.length d') ∧ Below w.heap.size w W) → Hid (Calls Try.prog 13 #[.agg #[.string (S n'), .slice A' es'.length c', .slice B' ss'.length d']] W fun e w' => ∃ D f, e = .returned (.slice D 17 f) ∧ Row w' D (scells T') ∧ Below W.heap.size W w' ∧ w'.cell? ⟨w.heap.size, 0, none⟩ = some (.string (S n)) ∧ w'.cell? ⟨w.heap.size, 1, none⟩ = some (.slice A es.length c) ∧ w'.cell? ⟨w.heap.size, 2, none⟩ = some (.slice B ss.length d) ∧ w'.cell? ⟨w.heap.size + 1, 0, none⟩ = some (.string (S n')) ∧ w'.cell? ⟨w.heap.size + 1, 1, none⟩ = some (.slice A' es'.length c') ∧ w'.cell? ⟨w.heap.size + 1, 2, none⟩ = some (.slice B' ss'.length d') ∧ Below w.heap.size w w') := fun W h => by
            show Calls _ _ _ _ _
            refine (hS2 W (hA'.below h.2.2.2.2.2.2) (hB'.below h.2.2.2.2.2.2)).out.mono ?_
            rintro e w' ⟨D, f, rfl, hD, hb⟩
            rw [e2]
            exact ⟨D, f, rfl, hD, hb, kept h.1 hb, kept h.2.1 hb, kept h.2.2.1 hb, kept h.2.2.2.1 hb, kept h.2.2.2.2.1 hb, kept h.2.2.2.2.2.1 hb, below_chain h.2.2.2.2.2.2 hb⟩
          have hQ' : ∀ (D D' : Option Addr) (e e' : Nat) (W : World), (W.cell? ⟨w.heap.size, 0, none⟩ = some (.string (S n)) ∧ W.cell? ⟨w.heap.size, 1, none⟩ = some (.slice A es.length c) ∧ W.cell? ⟨w.heap.size, 2, none⟩ = some (.slice B ss.length d) ∧ W.cell? ⟨w.heap.size + 1, 0, none⟩ = some (.string (S n')) ∧ W.cell? ⟨w.heap.size + 1, 1, none⟩ = some (.slice A' es'.length c') ∧ W.cell? ⟨w.heap.size + 1, 2, none⟩ = some (.slice B' ss'.length d') ∧ Below w.heap.size w W) → Row W D (scells T) → Row W D' (scells T') → Hid (Calls Try.prog 11 #[.slice D 17 e, .slice D' 17 e'] W fun e w' => e = .returned (.tuple #[.string (S u), .string (S v), .int .i64 z]) ∧ w'.cell? ⟨w.heap.size, 0, none⟩ = some (.string (S n)) ∧ w'.cell? ⟨w.heap.size, 1, none⟩ = some (.slice A es.length c) ∧ w'.cell? ⟨w.heap.size, 2, none⟩ = some (.slice B ss.length d) ∧ w'.cell? ⟨w.heap.size + 1, 0, none⟩ = some (.string (S n')) ∧ w'.cell? ⟨w.heap.size + 1, 1, none⟩ = some (.slice A' es'.length c') ∧ w'.cell? ⟨w.heap.size + 1, 2, none⟩ = some (.slice B' ss'.length d') ∧ Below w.heap.size w w') := fun D D' e e' W h h1 h2 => by
            show Calls _ _ _ _ _
            refine (hQ D D' e e' W h1 h2).out.mono ?_
            rintro e w' ⟨rfl, m, hw⟩
            have hb := below_drew hw
            exact ⟨rfl, kept h.1 hb, kept h.2.1 hb, kept h.2.2.1 hb, kept h.2.2.2.1 hb, kept h.2.2.2.2.1 hb, kept h.2.2.2.2.2.1 hb, below_chain h.2.2.2.2.2.2 hb⟩
          clear hS1 hS2 hQ e1 e2 hA hB hA' hB'
          go_wp2
          go_region_held3 (fun W : World => W.cell? ⟨w.heap.size, 0, none⟩ = some (.string (S n)) ∧ W.cell? ⟨w.heap.size, 1, none⟩ = some (.slice A es.length c) ∧ W.cell? ⟨w.heap.size, 2, none⟩ = some (.slice B ss.length d) ∧ W.cell? ⟨w.heap.size + 1, 0, none⟩ = some (.string (S n')) ∧ W.cell? ⟨w.heap.size + 1, 1, none⟩ = some (.slice A' es'.length c') ∧ W.cell? ⟨w.heap.size + 1, 2, none⟩ = some (.slice B' ss'.length d') ∧ Below w.heap.size w W) (first | exact ⟨q0, q1, q2, q3, q4, q5, q6⟩ | exact ⟨k0, k1, k2, k3, k4, k5, k6⟩ | exact ⟨by assumption, by assumption, by assumption, by assumption, by assumption, by assumption, by assumption⟩ | go_keep)
            (first
              | (go_at_call_of 13 es; refine (hS1' _ ?_).out.mono ?_; (first | exact ⟨by assumption, by assumption, by assumption, by assumption, by assumption, by assumption, by assumption⟩); rintro e w' ⟨D1, f1, rfl, hD1, hb1, k0, k1, k2, k3, k4, k5, k6⟩)
              | (go_at_call_of 13 es'; refine (hS2' _ ?_).out.mono ?_; (first | exact ⟨by assumption, by assumption, by assumption, by assumption, by assumption, by assumption, by assumption⟩); rintro e w' ⟨D2, f2, rfl, hD2, hb2, k0, k1, k2, k3, k4, k5, k6⟩)
              | (go_at_call 11; refine (hQ' _ _ _ _ _ ?_ ?_ ?_).out.mono ?_; (first | exact ⟨by assumption, by assumption, by assumption, by assumption, by assumption, by assumption, by assumption⟩); (first | exact hD1 | exact hD1.below hb2); (first | exact hD2 | exact hD2.below hb1); rintro e w' ⟨rfl, k0, k1, k2, k3, k4, k5, k6⟩))
          all_goals
            clear hS1' hS2' hQ' q0 q1 q2 q3 q4 q5 q6
            go_wp2
            go_ret
            exact ⟨by simp, k6⟩
        · rw [if_neg h2] at hp
          injection hp with r1 r2
          injection r2 with r2 r3
          subst r1; subst r2; subst r3
          have c1 : (n == n') = false := beq_eq_false_iff_ne.2 h2
          clear h0 h1 h2 HP HN HN' HL
          rw [S_nil] at *
          go_wp2
          go_ret
          exact ⟨rfl, b6⟩
      · rw [if_neg h1] at hp
        injection hp with r1 r2
        injection r2 with r2 r3
        subst r1; subst r2
        rw [r3] at h1 ⊢
        have c1 : (z == 0) = false := beq_eq_false_iff_ne.2 h1
        clear h0 h1 HP HN HN' HL r3
        rw [S_nil] at *
        go_wp2
        go_ret
        exact ⟨by simp, b6⟩
    · rw [if_neg h0] at hp
      injection hp with r1 r2
      injection r2 with r2 r3
      subst r1; subst r2
      rw [r3] at h0 ⊢
      have c1 : (z == 0) = false := beq_eq_false_iff_ne.2 h0
      clear h0 HP HN HN' HL r3
      rw [S_nil] at *
      go_wp2
      go_ret
      exact ⟨by simp, b5⟩

theorem len_of_16 {a : Nat} (h : a * 16 ≤ 140737488351232) : a ≤ maxLen := by unfold maxLen; omega
set_option maxRecDepth 100000 in
theorem clashTells_lifted (os : Os) (started : os.Started) (H : Type) (enc : TypeId × Value → H) :
    ReturnsInHanded {} Try.checked os 3 .any (Rows.clashTellsSpec.pre6 enc Try.prog Try.f3 Rows.clashTellsRow.domain false) (Rows.clashTellsSpec.post enc Try.prog Try.f3 false true false false) := by
  refine returnsInHanded_of_change_sized (C := Try.checked) own started (by kernel_rfl) Try.func3
    (ChangeSpec.witness6 (enc := enc) (C := Try.checked) false ⟨#[], #[.slice none 0 0, .slice none 0 0, .agg #[.string ⟨#[]⟩, .slice none 0 0, .slice none 0 0], .agg #[.string ⟨#[]⟩, .slice none 0 0, .slice none 0 0]], []⟩ 8 (by kernel_rfl) (by kernel_rfl) (by kernel_rfl) (by kernel_rfl)) ?_
  intro W base args ds gs before hval0 hW hcnd hsz _
  have hval : ∀ (j : Nat) t v, Try.f3.params[j]? = some t → args[j]? = some v → Value.okWide Try.prog W .any base t v := hval0
  have hW' := hW
  obtain ⟨p, q, hA0, hV, rfl, hfz, hnd⟩ := hW
  have hA : DataW.TrodAll enc Try.prog W 0 (fun _ => true) true Try.f3.params.toList args.toList ds p := hA0
  rw [Try.params3] at hA hval
  obtain ⟨v0, vs0, d0, ds0, p0, q0, hargs, rfl, rfl, h0, r0⟩ := trodAll_cons hA
  obtain ⟨v1, vs1, d1, ds1, p1, q1, rfl, rfl, rfl, h1, r1⟩ := trodAll_cons r0
  obtain ⟨v2, vs2, d2, ds2, p2, q2, rfl, rfl, rfl, h2, r2⟩ := trodAll_cons r1
  obtain ⟨v3, vs3, d3, ds3, p3, q3, rfl, rfl, rfl, h3, r3⟩ := trodAll_cons r2
  obtain ⟨rfl, rfl, rfl⟩ := trodAll_nil r3
  obtain rfl : args = #[v0, v1, v2, v3] := by cases args; simp_all
  obtain ⟨rfl, rfl⟩ := trodVars_none hV
  rw [Try.params3] at hsz
  obtain ⟨A0, c0, s0, rfl, hm0, hr0, hs0⟩ := arg_strs_sized (j := 0) hsz rfl rfl (hval 0 22 v0 rfl rfl) h0
  obtain ⟨A1, c1, s1, rfl, hm1, hr1, hs1⟩ := arg_strs_sized (j := 1) hsz rfl rfl (hval 1 22 v1 rfl rfl) h1
  obtain ⟨n2, A2, c2, e2, B2, d2, s2, rfl, hn2, hm2, hr2, hs2, hc2, km2, kr2, ks2, kc2⟩ := arg_prf (hval 2 26 v2 rfl rfl) h2
  obtain ⟨n3, A3, c3, e3, B3, d3, s3, rfl, hn3, hm3, hr3, hs3, hc3, km3, kr3, ks3, kc3⟩ := arg_prf (hval 3 26 v3 rfl rfl) h3
  refine (clashTells_walk A0 A1 c0 c1 s0 s1 n2 n3 e2 e3 s2 s3 A2 B2 A3 B3 c2 d2 c3 d3 _ hm0 hm1 hs0 hs1 hn2 hm2 hs2 km2 hn3 hm3 hs3 km3 hr0 hr1 hr2 kr2 hr3 kr3).mono fun e W' ⟨he, hb⟩ => ?_
  subst he
  exact ⟨_, rfl, post_law laidOut (by decide +kernel) rfl Try.underlying4 (by kernel_rfl) hW' rfl hb⟩

/-- The statement. -/
theorem clashTells_said : Rows.ClashTellsSaid :=
  OpenClaim.holds_of_wide 3 Try.f3 rfl rfl rfl rfl rfl rfl rfl ⟨rfl, rfl, rfl, rfl, rfl⟩ rfl rfl rfl rfl rfl (by kernel_rfl) Try.func3 (by kernel_rfl)
    (of_decide_eq_true (by kernel_rfl)) (by unfold Func.isWrapper; first | (rw [if_pos (by decide +kernel)]; kernel_rfl) | (rw [if_neg (by decide +kernel)]; exact ⟨rfl, rfl⟩))
    (fun os started H enc _ => clashTells_lifted os started H enc)
#print axioms clashTells_said
end Go.Proofs.Yteclnibbgdbjfaa
