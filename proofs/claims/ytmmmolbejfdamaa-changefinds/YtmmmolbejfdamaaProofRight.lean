/- package proof: Right returns the first error of a proof. It writes nothing that was there. -/
import Derived.Test.YtmmmolbejfdamaaProofPath
import Derived.Test.YtmmmolbejfdamaaRefProof
namespace Go.Proofs.Ytmmmolbejfdamaa
open Go.RowKit

set_option maxRecDepth 100000 in
set_option maxHeartbeats 2000000 in
theorem proofRight (n : Bytes) (es : List Ent) (ss : List Nat) (A B : Option Addr) (c d : Nat) (w : World) (hn : n.length ≤ maxLen) (hm : es.length ≤ maxLen) (hes : ∀ x ∈ es, x.1.length ≤ maxLen ∧ x.2.length ≤ maxLen) (hsm : ss.length ≤ maxLen) (hA : Row w A (encells es)) (hB : Row w B (mcells ss)) (r : Int) (hr : pfault n es ss = r) :
    Calls Try.prog 71 #[.agg #[.string (S n), .slice A es.length c, .slice B ss.length d]] w fun e w' => e = .returned (.int .i64 r) ∧ Below w.heap.size w w' := by
  have hx0 := PBox.new w n A B es.length c ss.length d 53
  have hsm' : ss.length ≤ maxLen := hsm
  unfold maxLen at hm hsm'
  cases hnm : Bin.name n with
  | false =>
    have hG := fun w => Lib.hid (pathOf_no n w hn hnm)
    have HR : Hid (r = 3) := by
      show r = 3
      rw [← hr, pfault, hnm, if_neg (by simp)]
    clear hr hnm hes
    obtain ⟨k0, k1, k2⟩ := hx0
    go_enter Try.func71, Try.ntmps71
    go_wp2_with fail
    refine (hG _).out.mono ?_
    rintro e w1 ⟨rfl, rfl⟩
    go_wp2
    go_ret
    exact ⟨by rw [HR.out]; rfl, (Below.refl _ _).alloc (Nat.le_refl _) _⟩
  | true =>
    have hG := fun w => Lib.hid (pathOf_yes n w hnm)
    rw [pfault, hnm, if_pos rfl] at hr
    have hF := fun (w : World) hA => Lib.hid (treeCheck A c es w hm hes hA _ rfl)
    by_cases hf : fault es = 0
    · rw [if_pos hf] at hr
      rw [hf] at hF
      have HR := Lib.hid hr
      have HE := Lib.hid ((fault_ok es).1 hf).name
      clear hr hnm hes hf hn
      obtain ⟨k0, k1, k2⟩ := hx0
      go_enter Try.func71, Try.ntmps71
      go_wp2_with fail
      refine (hG _).out.mono ?_
      rintro e w1 ⟨rfl, hb10⟩
      have hb1 : Below w.heap.size w w1 := below_chain ((Below.refl _ _).alloc (Nat.le_refl _) _) hb10
      have hx1 := (PBox.mk k0 k1 k2).below hb10
      clear hb10 k0 k1 k2 hG
      obtain ⟨k0, k1, k2⟩ := hx1
      go_wp2_with fail
      refine (hF _ (hA.below hb1)).out.mono ?_
      rintro e w2 ⟨rfl, hb2⟩
      have hb02 := below_chain hb1 hb2
      have hx2 := (PBox.mk k0 k1 k2).below hb2
      clear hF hb1 hb2 k0 k1 k2
      obtain ⟨k0, k1, k2⟩ := hx2
      go_wp2
      go_loopw [28] (fun i wr => ∃ k : Nat, k ≤ es.length ∧ i = .int .i64 k ∧ Hid (sameWay n (es.take k) = true) ∧ PBox wr w.heap.size n A es.length c B ss.length d ∧ Below w.heap.size w wr) (fun i _ => es.length - (intOf i).toNat)
      case atStart => exact ⟨0, Nat.zero_le _, rfl, rfl, ⟨k0, k1, k2⟩, hb02⟩
      case round =>
        obtain ⟨k, hk, rfl, HW, hx, hbl⟩ := hrel
        have hsz := hbl.size
        clear k0 k1 k2 hb02
        by_cases hlt : k < es.length
        · obtain ⟨g, off, hAe, h1, h2⟩ := (hA.below hbl).ent k hlt
          have hi0 : (0 : Int) ≤ (k : Int) := by omega
          have hi1 : (k : Int) < (es.length : Int) := by omega
          have hpk := fun w => Lib.hid (hasPath es[k].1 (Bin.of n) w (HE.out _ (List.getElem_mem hlt)) _ rfl)
          have HS : Hid (Bin.of es[k].1 = Bin.of n → sameWay n (es.take (k + 1)) = true) := by
            show _ → _
            intro e
            rw [sameWay_step n es k hlt, HW.out, e, beq_self_eq_true]
            rfl
          have HN : Hid (¬ Bin.of es[k].1 = Bin.of n → r = 3) := by
            show _ → _
            intro e
            rw [← HR.out, sameWay_not n es k hlt e, if_neg (by simp)]
          have hx1 := hx.alloc (.cells #[.string (S es[k].1), .string (S es[k].2)] 34)
          have hbw : Below w.heap.size w (wr.alloc (.cells #[.string (S es[k].1), .string (S es[k].2)] 34)) := hbl.alloc hsz _
          have k4 : (wr.alloc (.cells #[.string (S es[k].1), .string (S es[k].2)] 34)).cell? ⟨wr.heap.size, 0, none⟩ = some (.string (S es[k].1)) := by rw [World.cell?_alloc_new]; rfl
          generalize Bin.of es[k].1 = pk at *
          generalize Bin.of n = pn at *
          generalize es[k].1 = a at *
          generalize es[k].2 = b at *
          clear HW HR hA hx
          subst hAe
          by_cases he : pk = pn
          · have c1 : (pk == pn) = true := beq_iff_eq.2 he
            rw [c1] at hpk
            have HS' := Lib.hid (HS.out he)
            clear HS HN he c1
            go_wp2_with fail
            refine (hpk _).out.mono ?_
            rintro e w4 ⟨rfl, hb4⟩
            go_wp2
            go_roundw
            case rel => exact ⟨k + 1, by omega, by go_num, HS', hx1.below hb4, below_chain hbw hb4⟩
            case measure => simp [intOf]; omega
          · have c1 : (pk == pn) = false := beq_eq_false_iff_ne.2 he
            rw [c1] at hpk
            have HN' := Lib.hid (HN.out he)
            clear HS HN he c1
            go_wp2_with fail
            refine (hpk _).out.mono ?_
            rintro e w4 ⟨rfl, hb4⟩
            go_wp2
            go_ret
            exact ⟨by rw [HN'.out]; rfl, below_chain hbw hb4⟩
        · have HR' : Hid ((if ss.length = 16 then (if lowM ss = true then (0 : Int) else 3) else 3) = r) := by
            show _ = r
            have hw := HW.out
            rw [List.take_of_length_le (by omega)] at hw
            rw [← HR.out, if_pos hw]
          have hBr := hB.below hbl
          obtain ⟨k0, k1, k2⟩ := hx
          clear HW HR
          by_cases h16 : ss.length = 16
          · have c16 : ((ss.length : Int) == 16) = true := beq_iff_eq.2 (by omega)
            have HR2 : Hid ((if lowM ss = true then (0 : Int) else 3) = r) := by
              show _ = r
              rw [← HR'.out, if_pos h16]
            clear HR'
            go_wp2
            go_loop [45] (fun i => ∃ j : Nat, j ≤ ss.length ∧ i = .int .i64 j ∧ Hid (lowM (ss.take j) = true)) (fun i => ss.length - (intOf i).toNat)
            case atStart => exact ⟨0, Nat.zero_le _, rfl, rfl⟩
            case round =>
              obtain ⟨j, hj, rfl, HJ⟩ := hrel
              by_cases hjt : j < ss.length
              · obtain ⟨g, off, rfl, h3⟩ := hBr.mark j hjt
                have hj0 : (0 : Int) ≤ (j : Int) := by omega
                have hj1 : (j : Int) < (ss.length : Int) := by omega
                have hj2 : (j : Int) < 16 := by omega
                have HS : Hid (ss[j] < 2305843009213693951 → lowM (ss.take (j + 1)) = true) := by
                  show _ → _
                  intro e
                  rw [lowM_step ss j hjt, HJ.out, decide_eq_true e]
                  rfl
                have HN : Hid (¬ ss[j] < 2305843009213693951 → r = 3) := by
                  show _ → _
                  intro e
                  rw [← HR2.out, lowM_not ss j hjt e, if_neg (by simp)]
                generalize ss[j] = z at *
                by_cases he : z < 2305843009213693951
                · have c1 : decide ((2305843009213693951 : Int) ≤ (z : Int)) = false := decide_eq_false (by omega)
                  have HS' := Lib.hid (HS.out he)
                  clear HS HN he HJ HR2 c16 h16
                  go_wp2
                  go_round
                  case rel => exact ⟨j + 1, by omega, by go_num, HS'⟩
                  case measure => simp [intOf]; omega
                · have c1 : decide ((2305843009213693951 : Int) ≤ (z : Int)) = true := decide_eq_true (by omega)
                  have HN' := Lib.hid (HN.out he)
                  clear HS HN he HJ HR2 c16 h16
                  go_wp2
                  go_ret
                  exact ⟨by rw [HN'.out]; rfl, hbl⟩
              · have HF : Hid (r = 0) := by
                  show r = 0
                  have hw := HJ.out
                  rw [List.take_of_length_le (by omega)] at hw
                  rw [← HR2.out, if_pos hw]
                clear HJ HR2
                go_wp2
                go_ret
                exact ⟨by rw [HF.out]; rfl, hbl⟩
          · have c16 : ((ss.length : Int) == 16) = false := beq_eq_false_iff_ne.2 (by omega)
            have HF : Hid (r = 3) := by
              show r = 3
              rw [← HR'.out, if_neg h16]
            clear HR' h16
            go_wp2
            go_ret
            exact ⟨by rw [HF.out]; rfl, hbl⟩
    · rw [if_neg hf] at hr
      rw [hr] at hF
      have c1 : (r == 0) = false := beq_eq_false_iff_ne.2 (by rw [← hr]; exact hf)
      clear hr hnm hes hf
      obtain ⟨k0, k1, k2⟩ := hx0
      go_enter Try.func71, Try.ntmps71
      go_wp2_with fail
      refine (hG _).out.mono ?_
      rintro e w1 ⟨rfl, hb10⟩
      have hb1 : Below w.heap.size w w1 := below_chain ((Below.refl _ _).alloc (Nat.le_refl _) _) hb10
      have hx1 := (PBox.mk k0 k1 k2).below hb10
      clear hb10 k0 k1 k2 hG
      obtain ⟨k0, k1, k2⟩ := hx1
      go_wp2_with fail
      refine (hF _ (hA.below hb1)).out.mono ?_
      rintro e w2 ⟨rfl, hb2⟩
      go_wp2
      go_ret
      exact ⟨rfl, below_chain hb1 hb2⟩
end Go.Proofs.Ytmmmolbejfdamaa
