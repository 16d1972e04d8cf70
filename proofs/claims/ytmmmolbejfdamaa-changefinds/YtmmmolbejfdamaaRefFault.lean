/- The reference's BookFault returns the first error of a book. It writes nothing that was there. -/
import Derived.Test.YtmmmolbejfdamaaBook
import Derived.Test.YtmmmolbejfdamaaRefPath
import Derived.Test.YtmmmolbejfdamaaApps
namespace Go.Proofs.Ytmmmolbejfdamaa
open Go.RowKit

theorem refAhead' (a b : Bytes) (w : World) (ha : a.length ≤ maxLen) (hb : b.length ≤ maxLen) (r : Bool) (hr : decide (Bin.R a b) = r) :
    Calls Try.prog 37 #[.string (S a), .string (S b)] w fun e w' => e = .returned (.bool r) ∧ w' = w :=
  (refAhead a b w ha hb r hr).mono fun _ _ h => ⟨h.1, h.2.symm⟩

set_option maxRecDepth 100000 in
set_option maxHeartbeats 800000 in
theorem refFault (A : Option Addr) (c : Nat) (es : List Ent) (w : World) (hm : es.length ≤ maxLen) (hes : ∀ x ∈ es, x.1.length ≤ maxLen ∧ x.2.length ≤ maxLen) (hA : Row w A (encells es)) (r : Int) (hr : fault es = r) :
    Calls Try.prog 11 #[.slice A es.length c] w fun e w' => e = .returned (.int .i64 r) ∧ Below w.heap.size w w' := by
  unfold maxLen at hm
  by_cases h24 : 24 < es.length
  · have HR : Hid (r = 2) := by
      show r = 2
      rw [← hr, fault, if_pos h24]
    have c1 : decide ((24 : Int) < (es.length : Int)) = true := decide_eq_true (by omega)
    clear hr h24
    go_enter Try.func11, Try.ntmps11
    go_wp2
    go_ret
    exact ⟨by rw [HR.out]; rfl, Below.refl _ _⟩
  · have HR : Hid (r = faultFrom none es) := by
      show r = _
      rw [← hr, fault, if_neg h24]
    have c1 : decide ((24 : Int) < (es.length : Int)) = false := decide_eq_false (by omega)
    have HE := Lib.hid hes
    clear hr h24 hes
    go_enter Try.func11, Try.ntmps11
    go_wp2
    go_loopw [10] (fun i wr => ∃ k : Nat, k ≤ es.length ∧ i = .int .i64 k ∧ Hid (r = faultFrom (prevN es k) (es.drop k)) ∧ Below w.heap.size w wr) (fun i _ => es.length - (intOf i).toNat)
    case atStart => exact ⟨0, Nat.zero_le _, rfl, HR.out, Below.refl _ _⟩
    case round =>
      obtain ⟨k, hk, rfl, HS, hbl⟩ := hrel
      have hsz := hbl.size
      clear c1
      by_cases hlt : k < es.length
      · obtain ⟨g, off, rfl, h1, h2⟩ := (hA.below hbl).ent k hlt
        have hi0 : (0 : Int) ≤ (k : Int) := by omega
        have hi1 : (k : Int) < (es.length : Int) := by omega
        obtain ⟨hx1, hx2⟩ := HE.out _ (List.getElem_mem hlt)
        have HS' : Hid (r = if Bin.name es[k].1 = false then 3 else if 20 < es[k].2.length then 2 else if badAfter (prevN es k) es[k].1 = true then 3 else faultFrom (prevN es (k + 1)) (es.drop (k + 1))) := by
          show r = _
          rw [HS.out, List.drop_eq_getElem_cons hlt]
          rw [faultFrom, prevN, List.getElem?_eq_getElem hlt]
          rfl
        have hG := fun w => Lib.hid (goodName es[k].1 w hx1 _ rfl)
        cases hnm : Bin.name es[k].1 with
        | false =>
          rw [hnm] at hG
          have HR' : Hid (r = 3) := by
            show r = 3
            rw [HS'.out, if_pos hnm]
          clear HS HS' hnm hx1 hx2 hA
          generalize es[k].1 = a at *
          generalize es[k].2 = b at *
          go_wp2_with fail
          refine (hG _).out.mono ?_
          rintro e w1 ⟨rfl, rfl⟩
          go_wp2
          go_ret
          exact ⟨by rw [HR'.out]; rfl, hbl.alloc hsz _⟩
        | true =>
          rw [hnm] at hG
          rw [if_neg (by rw [hnm]; simp)] at HS'
          by_cases h20 : 20 < es[k].2.length
          · have c2 : decide ((20 : Int) < (es[k].2.length : Int)) = true := decide_eq_true (by omega)
            rw [if_pos h20] at HS'
            clear HS hnm hx1 hx2 hA h20
            generalize es[k].1 = a at *
            generalize es[k].2 = b at *
            go_wp2_with fail
            refine (hG _).out.mono ?_
            rintro e w1 ⟨rfl, rfl⟩
            go_wp2
            go_ret
            exact ⟨by rw [HS'.out]; rfl, hbl.alloc hsz _⟩
          · have c2 : decide ((20 : Int) < (es[k].2.length : Int)) = false := decide_eq_false (by omega)
            rw [if_neg h20] at HS'
            cases k with
            | zero =>
              rw [if_neg (by simp [prevN, badAfter])] at HS'
              rw [Nat.zero_mul, Nat.add_zero] at h1 h2
              clear HS hnm hx1 hx2 hA h20
              generalize es[0].1 = a at *
              generalize es[0].2 = b at *
              go_wp2_with fail
              refine (hG _).out.mono ?_
              rintro e w1 ⟨rfl, rfl⟩
              go_wp2
              go_quiet (fail)
              go_wp2
              go_roundw
              case rel => exact ⟨1, by omega, by go_num, HS', below_drewN (hbl.alloc hsz _) _⟩
              case measure => simp [intOf]; omega
            | succ j =>
              obtain ⟨g', off', e', h3, -⟩ := (hA.below hbl).ent j (by omega)
              injection e' with e'
              injection e' with e1 e2
              subst e1; subst e2
              obtain ⟨hy1, -⟩ := HE.out _ (List.getElem_mem (show j < es.length by omega))
              have hAh := fun w => Lib.hid (refAhead' es[j].1 es[j + 1].1 w hy1 hx1 _ rfl)
              rw [prevN, List.getElem?_eq_getElem (show j < es.length by omega), Option.map_some, badAfter] at HS'
              clear HS hnm hx1 hx2 hy1 hA h20
              generalize es[j + 1].1 = a at *
              generalize es[j + 1].2 = b at *
              generalize es[j].1 = y at *
              go_wp2_with fail
              refine (hG _).out.mono ?_
              rintro e w1 ⟨rfl, hw⟩
              have hbw : Below w.heap.size w w1 := by rw [← hw]; exact hbl.alloc hsz _
              have k1 : w1.cell? ⟨wr.heap.size, 0, none⟩ = some (.string (S a)) := by rw [← hw, World.cell?_alloc_new]; rfl
              have k2 : w1.cell? ⟨wr.heap.size, 1, none⟩ = some (.string (S b)) := by rw [← hw, World.cell?_alloc_new]; rfl
              have k3 : w1.cell? ⟨g, off + j * 2, none⟩ = some (.string (S y)) := by rw [← hw, World.cell?_alloc_lt _ _ _ (World.block_lt_of_cell? _ _ h3)]; exact h3
              clear hw h1 h2 h3 hG hbl
              generalize wr.heap.size = gx at *
              cases hR : decide (Bin.R y a) with
              | true =>
                rw [hR] at hAh HS'
                rw [if_neg (by simp)] at HS'
                clear hR
                go_wp2
                go_quiet (first | (go_at_call 37; refine Calls.quiet_of_same ((hAh _).out)))
                go_wp2
                go_roundw
                case rel => exact ⟨j + 2, by omega, by go_num, HS', below_drewN hbw _⟩
                case measure => simp [intOf]; omega
              | false =>
                rw [hR] at hAh HS'
                rw [if_pos (by simp)] at HS'
                clear hR
                go_wp2
                go_quiet (first | (go_at_call 37; refine Calls.quiet_of_same ((hAh _).out)))
                go_wp2
                go_ret
                exact ⟨by rw [HS'.out]; rfl, below_drewN hbw _⟩
      · have HR' : Hid (r = 0) := by
          show r = 0
          rw [HS.out, List.drop_eq_nil_of_le (by omega)]
          cases prevN es k <;> rfl
        go_wp2
        go_ret
        exact ⟨by rw [HR'.out]; rfl, hbl⟩
end Go.Proofs.Ytmmmolbejfdamaa
