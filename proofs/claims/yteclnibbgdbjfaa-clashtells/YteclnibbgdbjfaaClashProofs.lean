/- clash.Proofs returns the collision in the preimages of two proofs for one name. It writes nothing that was there. -/
import Derived.Test.YteclnibbgdbjfaaClashTexts
import Derived.Test.YteclnibbgdbjfaaProofSaid
namespace Go.Proofs.Yteclnibbgdbjfaa
set_option maxRecDepth 100000
open Go.RowKit

/-- What Proofs answers. -/
def proofsAns (n : Bytes) (es : List Ent) (ss : List Nat) (n' : Bytes) (es' : List Ent) (ss' : List Nat) : Bytes × Bytes × Int :=
  if pfault n es ss = 0 then
    if pfault n' es' ss' = 0 then
      if n = n' then clashOf (psaid n es ss) (psaid n' es' ss') else ([], [], 3)
    else ([], [], pfault n' es' ss')
  else ([], [], pfault n es ss)

theorem psaid_small {n : Bytes} {es : List Ent} {ss : List Nat} (hp : PGood n es ss) : ∀ s ∈ psaid n es ss, s.length ≤ maxLen := fun s hs => by
  rw [psaid, List.mem_map] at hs
  obtain ⟨i, _, rfl⟩ := hs
  have := hp.book.len
  exact climb_le n es ss (by omega) (good_5 hp.book) i

set_option maxHeartbeats 2000000 in
theorem clashProofs (n n' : Bytes) (es es' : List Ent) (ss ss' : List Nat) (A B A' B' : Option Addr) (c d c' d' : Nat) (w : World)
    (hn : n.length ≤ maxLen) (hm : es.length ≤ maxLen) (hes : ∀ x ∈ es, x.1.length ≤ maxLen ∧ x.2.length ≤ maxLen) (hsm : ss.length ≤ maxLen)
    (hn' : n'.length ≤ maxLen) (hm' : es'.length ≤ maxLen) (hes' : ∀ x ∈ es', x.1.length ≤ maxLen ∧ x.2.length ≤ maxLen) (hsm' : ss'.length ≤ maxLen)
    (hA : Row w A (encells es)) (hB : Row w B (mcells ss)) (hA' : Row w A' (encells es')) (hB' : Row w B' (mcells ss')) (x y : Bytes) (r : Int) (hr : proofsAns n es ss n' es' ss' = (x, y, r)) :
    Calls Try.prog 7 #[.agg #[.string (S n), .slice A es.length c, .slice B ss.length d], .agg #[.string (S n'), .slice A' es'.length c', .slice B' ss'.length d']] w fun e w' => e = .returned (.tuple #[.string (S x), .string (S y), .int .i64 r]) ∧ Below w.heap.size w w' := by
  unfold proofsAns at hr
  have hb0 : Below w.heap.size w ((w.alloc (.cells #[.string (S n), .slice A es.length c, .slice B ss.length d] 26)).alloc (.cells #[.string (S n'), .slice A' es'.length c', .slice B' ss'.length d'] 26)) := ((Below.refl _ _).alloc (Nat.le_refl _) _).alloc (by simp) _
  have hx0 := (PBox.new w n A B es.length c ss.length d 26).alloc (.cells #[.string (S n'), .slice A' es'.length c', .slice B' ss'.length d'] 26)
  have hy0 := PBox.new (w.alloc (.cells #[.string (S n), .slice A es.length c, .slice B ss.length d] 26)) n' A' B' es'.length c' ss'.length d' 26
  have hsz : (w.alloc (.cells #[.string (S n), .slice A es.length c, .slice B ss.length d] 26)).heap.size = w.heap.size + 1 := by simp
  rw [hsz] at hy0
  clear hsz
  by_cases h0 : pfault n es ss = 0
  · rw [if_pos h0] at hr
    have hp := (pfault_ok _ _ _).1 h0
    have hS := fun (w : World) hA hB => Lib.hid (proofSaid_yes n es ss A B c d w hp hA hB)
    by_cases h1 : pfault n' es' ss' = 0
    · rw [if_pos h1] at hr
      have hq := (pfault_ok _ _ _).1 h1
      have hS' := fun (w : World) hA hB => Lib.hid (proofSaid_yes n' es' ss' A' B' c' d' w hq hA hB)
      have hl := psaid_length n es ss
      have hl' := psaid_length n' es' ss'
      have hm1 := psaid_small hp
      have hm1' := psaid_small hq
      generalize psaid n es ss = T at *
      generalize psaid n' es' ss' = T' at *
      by_cases h2 : n = n'
      · rw [if_pos h2] at hr
        have hT := fun (D D' : Option Addr) (e e' : Nat) (w : World) hA hB => Lib.hid (clashTexts D D' e e' T T' w (by rw [hl]; unfold maxLen; omega) hm1 hm1' hA hB x y r hr)
        have c1 : (n == n') = true := beq_iff_eq.2 h2
        rw [hl] at hT
        rw [hl'] at hT
        obtain ⟨k0, k1, k2⟩ := hx0
        obtain ⟨j0, j1, j2⟩ := hy0
        clear hm1 hm1' hr h2 h1 h0 hp hq hn hn' hm hm' hes hes' hsm hsm'
        go_enter Try.func7, Try.ntmps7
        go_wp2_with fail
        refine (hS _ (hA.below hb0) (hB.below hb0)).out.mono ?_
        rintro e w1 ⟨D, f, rfl, hD, hb1⟩
        have hx1 := (PBox.mk k0 k1 k2).below hb1
        have hy1 := (PBox.mk j0 j1 j2).below hb1
        have hb01 := below_chain hb0 hb1
        rw [hl]
        clear k0 k1 k2 j0 j1 j2 hb0 hb1 hS
        obtain ⟨k0, k1, k2⟩ := hx1
        obtain ⟨j0, j1, j2⟩ := hy1
        go_wp2_with fail
        refine (hS' _ (hA'.below hb01) (hB'.below hb01)).out.mono ?_
        rintro e w2 ⟨D', f', rfl, hD', hb2⟩
        have hx2 := (PBox.mk k0 k1 k2).below hb2
        have hy2 := (PBox.mk j0 j1 j2).below hb2
        have hb02 := below_chain hb01 hb2
        have hD2 := hD.below hb2
        rw [hl']
        clear k0 k1 k2 j0 j1 j2 hb01 hb2 hS' hD hl hl'
        obtain ⟨k0, k1, k2⟩ := hx2
        obtain ⟨j0, j1, j2⟩ := hy2
        go_wp2_with fail
        refine (hT D D' f f' _ hD2 hD').out.mono ?_
        rintro e w3 ⟨rfl, m, rfl⟩
        go_wp2
        go_ret3
        exact ⟨rfl, below_drewN hb02 _⟩
      · rw [if_neg h2] at hr
        injection hr with r1 r2
        injection r2 with r2 r3
        subst r1; subst r2; subst r3
        have c1 : (n == n') = false := beq_eq_false_iff_ne.2 h2
        obtain ⟨k0, k1, k2⟩ := hx0
        obtain ⟨j0, j1, j2⟩ := hy0
        clear hm1 hm1' h2 h1 h0 hp hq hn hn' hm hm' hes hes' hsm hsm'
        go_enter Try.func7, Try.ntmps7
        go_wp2_with fail
        refine (hS _ (hA.below hb0) (hB.below hb0)).out.mono ?_
        rintro e w1 ⟨D, f, rfl, hD, hb1⟩
        have hx1 := (PBox.mk k0 k1 k2).below hb1
        have hy1 := (PBox.mk j0 j1 j2).below hb1
        have hb01 := below_chain hb0 hb1
        rw [hl]
        clear k0 k1 k2 j0 j1 j2 hb0 hb1 hS
        obtain ⟨k0, k1, k2⟩ := hx1
        obtain ⟨j0, j1, j2⟩ := hy1
        go_wp2_with fail
        refine (hS' _ (hA'.below hb01) (hB'.below hb01)).out.mono ?_
        rintro e w2 ⟨D', f', rfl, hD', hb2⟩
        have hx2 := (PBox.mk k0 k1 k2).below hb2
        have hy2 := (PBox.mk j0 j1 j2).below hb2
        have hb02 := below_chain hb01 hb2
        rw [hl']
        clear k0 k1 k2 j0 j1 j2 hb01 hb2 hS' hD hl hl'
        obtain ⟨k0, k1, k2⟩ := hx2
        obtain ⟨j0, j1, j2⟩ := hy2
        go_wp2
        go_ret3
        exact ⟨rfl, hb02⟩
    · rw [if_neg h1] at hr
      injection hr with r1 r2
      injection r2 with r2 r3
      subst r1; subst r2
      have hS' := fun (w : World) hA hB => Lib.hid (proofSaid_no n' es' ss' A' B' c' d' w hn' hm' hes' hsm' hA hB r r3 (by rw [← r3]; exact h1))
      have c1 : (r == 0) = false := beq_eq_false_iff_ne.2 (by rw [← r3]; exact h1)
      have hl := psaid_length n es ss
      generalize psaid n es ss = T at *
      obtain ⟨k0, k1, k2⟩ := hx0
      obtain ⟨j0, j1, j2⟩ := hy0
      clear h1 h0 hp hn hn' hm hm' hes hes' hsm hsm' r3
      go_enter Try.func7, Try.ntmps7
      go_wp2_with fail
      refine (hS _ (hA.below hb0) (hB.below hb0)).out.mono ?_
      rintro e w1 ⟨D, f, rfl, hD, hb1⟩
      have hy1 := (PBox.mk j0 j1 j2).below hb1
      have hb01 := below_chain hb0 hb1
      rw [hl]
      clear k0 k1 k2 j0 j1 j2 hb0 hb1 hS hl
      obtain ⟨j0, j1, j2⟩ := hy1
      go_wp2_with fail
      refine (hS' _ (hA'.below hb01) (hB'.below hb01)).out.mono ?_
      rintro e w2 ⟨rfl, hb2⟩
      go_wp2
      go_ret3
      exact ⟨rfl, below_chain hb01 hb2⟩
  · rw [if_neg h0] at hr
    injection hr with r1 r2
    injection r2 with r2 r3
    subst r1; subst r2
    have hS := fun (w : World) hA hB => Lib.hid (proofSaid_no n es ss A B c d w hn hm hes hsm hA hB r r3 (by rw [← r3]; exact h0))
    have c1 : (r == 0) = false := beq_eq_false_iff_ne.2 (by rw [← r3]; exact h0)
    obtain ⟨k0, k1, k2⟩ := hx0
    clear h0 hn hn' hm hm' hes hes' hsm hsm' r3
    go_enter Try.func7, Try.ntmps7
    go_wp2_with fail
    refine (hS _ (hA.below hb0) (hB.below hb0)).out.mono ?_
    rintro e w1 ⟨rfl, hb1⟩
    go_wp2
    go_ret3
    exact ⟨rfl, below_chain hb0 hb1⟩
end Go.Proofs.Yteclnibbgdbjfaa
