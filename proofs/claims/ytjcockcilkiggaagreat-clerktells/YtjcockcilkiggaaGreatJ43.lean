/- The reference: ChainFault. It writes nothing that was there. -/
import Derived.Test.YtjcockcilkiggaaGreatJ14
import Derived.Test.YtjcockcilkiggaaGreatJ09
import Derived.Test.YtjcockcilkiggaaGreatJ42
import Derived.Deep.RegionHeld3
import Derived.Test.YtjcockcilkiggaaGreatJ06
import Derived.Test.YtjcockcilkiggaaGreatJ05
import Derived.Test.YtjcockcilkiggaaGreatJ01
import Derived.Test.YtjcockcilkiggaaGreatJ16
namespace Go.Proofs.YtjcockcilkiggaaGreat
set_option maxRecDepth 100000
open Go.RowKit

set_option maxHeartbeats 4000000 in
theorem refCFault (A : Option Addr) (c : Nat) (l : List Hd) (w : World) (hm : l.length ≤ maxLen) (hA : Row w A (hcells l)) (r : Int) (p : Nat) (hr : cfault l = (r, p)) :
    Calls Tryz.prog 28 #[.slice A l.length c] w fun e w' => e = .returned (.tuple #[.int .i64 r, .int .i64 (p : Int)]) ∧ Below w.heap.size w w' := by
  unfold maxLen at hm
  unfold cfault at hr
  by_cases h0 : l.length = 0
  · rw [if_pos h0] at hr
    injection hr with e1 e2
    subst e1; subst e2
    have c0 : ((l.length : Int) == 0) = true := beq_iff_eq.2 (by omega)
    clear h0
    go_enter Tryz.func28, Tryz.ntmps28
    go_wp2
    go_ret2
    exact ⟨rfl, Below.refl _ _⟩
  rw [if_neg h0] at hr
  have c0 : ((l.length : Int) == 0) = false := beq_eq_false_iff_ne.2 (by omega)
  by_cases h1 : 40 < l.length
  · rw [if_pos h1] at hr
    injection hr with e1 e2
    subst e1; subst e2
    have c1 : decide ((40 : Int) < (l.length : Int)) = true := decide_eq_true (by omega)
    clear h0 h1
    go_enter Tryz.func28, Tryz.ntmps28
    go_wp2
    go_ret2
    exact ⟨rfl, Below.refl _ _⟩
  rw [if_neg h1] at hr
  have c1 : decide ((40 : Int) < (l.length : Int)) = false := decide_eq_false (by omega)
  have HR := Lib.hid hr
  have HP := Lib.hid (Nat.pos_of_ne_zero h0)
  clear hr h0 h1
  go_enter Tryz.func28, Tryz.ntmps28
  go_wp2
  go_loopw [16] (fun i wr => ∃ k : Nat, k ≤ l.length ∧ i = .int .i64 k ∧ Hid (badAt l 0 = badAt (l.drop k) k) ∧ Below w.heap.size w wr) (fun i _ => l.length - (intOf i).toNat)
  case atStart => exact ⟨0, Nat.zero_le _, rfl, rfl, Below.refl _ _⟩
  case round =>
    obtain ⟨k, hk, rfl, HS, hbl⟩ := hrel
    have hsz := hbl.size
    by_cases hlt : k < l.length
    · obtain ⟨g, off, rfl, h1, h2, h3, h4⟩ := (hA.below hbl).head k hlt
      have hi0 : (0 : Int) ≤ (k : Int) := by omega
      have hi1 : (k : Int) < (l.length : Int) := by omega
      have HS' : Hid (badAt l 0 = if hfault l[k] = 0 then badAt (l.drop (k + 1)) (k + 1) else some (hfault l[k], k)) := by
        show _ = _
        rw [HS.out, List.drop_eq_getElem_cons hlt]
        rfl
      clear hA HS
      obtain ⟨⟨ep, rt, pv, tm⟩, hx⟩ : ∃ x, l[k] = x := ⟨_, rfl⟩
      rw [hx] at h1 h2 h3 h4 HS'
      clear hx
      obtain ⟨r1, hr1⟩ : ∃ r1, hfault (ep, rt, pv, tm) = r1 := ⟨_, rfl⟩
      have hC := fun w => Lib.hid (refHFault ep rt pv tm w r1 hr1)
      rw [hr1] at HS'
      clear hr1
      dsimp only at h1 h2 h3 h4
      have hb0 : Below w.heap.size w (wr.alloc (.cells #[.int .i64 ep, .int .u64 (rt : Int), .int .u64 (pv : Int), .int .i64 tm] 45)) := hbl.alloc hsz _
      by_cases he : r1 = 0
      · subst he
        have HR' : Hid (badAt l 0 = badAt (l.drop (k + 1)) (k + 1)) := by
          show _ = _
          rw [HS'.out, if_pos rfl]
        clear HS'
        go_wp2_with fail
        refine (hC _).out.mono ?_
        rintro e w1 ⟨rfl, hb1⟩
        have hb2 := hb0.trans (hb1.mono hb0.size)
        clear hC
        go_wp2
        go_roundw
        case rel => exact ⟨k + 1, by omega, by go_num, HR', hb2⟩
        case measure => simp [intOf]; omega
      · have HR' : Hid ((r1, k) = (r, p)) := by
          show _ = _
          rw [← HR.out, HS'.out, if_neg he]
        have he' : (r1 == 0) = false := beq_eq_false_iff_ne.2 he
        clear HS' HR he
        go_wp2_with fail
        refine (hC _).out.mono ?_
        rintro e w1 ⟨rfl, hb1⟩
        have hb2 := hb0.trans (hb1.mono hb0.size)
        clear hC
        go_wp2
        go_ret2
        injection HR'.out with e1 e2
        subst e1; subst e2
        exact ⟨rfl, hb2⟩
    · have HN : Hid (badAt l 0 = none) := by
        show _ = _
        rw [HS.out, List.drop_eq_nil_of_le (by omega)]
        rfl
      clear HS
      have HQ : Hid ((match unAt l 1 with | some i => ((8 : Int), i) | none => (0, 0)) = (r, p)) := by
        have := HR.out
        rw [HN.out] at this
        exact this
      clear HR HN
      go_wp2
      go_loopw [7] (fun i wr => ∃ k : Nat, k + 1 ≤ l.length ∧ i = .int .i64 (k + 1) ∧ Hid (unAt l 1 = unAt (l.drop k) (k + 1)) ∧ Below w.heap.size w wr) (fun i _ => l.length - (intOf i).toNat)
      case atStart => exact ⟨0, HP.out, rfl, rfl, hbl⟩
      case round =>
        rename_i wr'
        obtain ⟨k, hk, rfl, HS, hbl'⟩ := hrel
        have hsz' := hbl'.size
        by_cases hlt : k + 1 < l.length
        · obtain ⟨g, off, rfl, h1, h2, h3, h4⟩ := (hA.below hbl').head k (by omega)
          obtain ⟨g', off', eA, j1, j2, j3, j4⟩ := (hA.below hbl').head (k + 1) hlt
          injection eA with eA
          injection eA with eA1 eA2
          subst eA1; subst eA2
          have HS' : Hid (unAt l 1 = if links l[k] l[k + 1] = true then unAt (l.drop (k + 1)) (k + 1 + 1) else some (k + 1)) := by
            show _ = _
            rw [HS.out, List.drop_eq_getElem_cons (by omega), List.drop_eq_getElem_cons hlt]
            rfl
          clear hA HS
          obtain ⟨⟨ep, rt, pv, tm⟩, hx⟩ : ∃ x, l[k] = x := ⟨_, rfl⟩
          obtain ⟨⟨fp, st, qv, um⟩, hy⟩ : ∃ x, l[k + 1] = x := ⟨_, rfl⟩
          rw [hx] at h1 h2 h3 h4
          rw [hy] at j1 j2 j3 j4
          rw [hx, hy] at HS'
          clear hx hy
          obtain ⟨b, hb⟩ : ∃ b, links (ep, rt, pv, tm) (fp, st, qv, um) = b := ⟨_, rfl⟩
          have hL := fun w => Lib.hid (refLinks ep rt pv tm fp st qv um w b hb)
          rw [hb] at HS'
          clear hb
          dsimp only at h1 h2 h3 h4 j1 j2 j3 j4
          have hL' : ∀ W : World, (W.cell? ⟨g, off + k * 4, none⟩ = some (.int .i64 ep) ∧ W.cell? ⟨g, off + k * 4 + 1, none⟩ = some (.int .u64 (rt : Int)) ∧ W.cell? ⟨g, off + k * 4 + 2, none⟩ = some (.int .u64 (pv : Int)) ∧ W.cell? ⟨g, off + k * 4 + 3, none⟩ = some (.int .i64 tm) ∧ W.cell? ⟨g, off + (k + 1) * 4, none⟩ = some (.int .i64 fp) ∧ W.cell? ⟨g, off + (k + 1) * 4 + 1, none⟩ = some (.int .u64 (st : Int)) ∧ W.cell? ⟨g, off + (k + 1) * 4 + 2, none⟩ = some (.int .u64 (qv : Int)) ∧ W.cell? ⟨g, off + (k + 1) * 4 + 3, none⟩ = some (.int .i64 um) ∧ Below w.heap.size w W) → Hid (Calls Tryz.prog 56 #[.agg #[.int .i64 ep, .int .u64 (rt : Int), .int .u64 (pv : Int), .int .i64 tm], .agg #[.int .i64 fp, .int .u64 (st : Int), .int .u64 (qv : Int), .int .i64 um]] W fun e w' => e = .returned (.bool b) ∧ w'.cell? ⟨g, off + k * 4, none⟩ = some (.int .i64 ep) ∧ w'.cell? ⟨g, off + k * 4 + 1, none⟩ = some (.int .u64 (rt : Int)) ∧ w'.cell? ⟨g, off + k * 4 + 2, none⟩ = some (.int .u64 (pv : Int)) ∧ w'.cell? ⟨g, off + k * 4 + 3, none⟩ = some (.int .i64 tm) ∧ w'.cell? ⟨g, off + (k + 1) * 4, none⟩ = some (.int .i64 fp) ∧ w'.cell? ⟨g, off + (k + 1) * 4 + 1, none⟩ = some (.int .u64 (st : Int)) ∧ w'.cell? ⟨g, off + (k + 1) * 4 + 2, none⟩ = some (.int .u64 (qv : Int)) ∧ w'.cell? ⟨g, off + (k + 1) * 4 + 3, none⟩ = some (.int .i64 um) ∧ Below w.heap.size w w') := fun W ⟨q1, q2, q3, q4, q5, q6, q7, q8, q9⟩ => by
            show Calls _ _ _ _ _
            refine (hL W).out.mono ?_
            rintro e w' ⟨rfl, hb⟩
            exact ⟨rfl, kept q1 hb, kept q2 hb, kept q3 hb, kept q4 hb, kept q5 hb, kept q6 hb, kept q7 hb, kept q8 hb, below_chain q9 hb⟩
          have i1 : IntKind.i64.wrap ((k : Int) + 1 - 1) = (k : Int) := by rw [IntKind.wrap_i64]; omega
          have i6 : IntKind.i64.wrap (k : Int) = (k : Int) := by rw [IntKind.wrap_i64]; omega
          have i2 : (0 : Int) ≤ (k : Int) := by omega
          have i3 : (k : Int) < (l.length : Int) := by omega
          have i4 : (0 : Int) ≤ (k : Int) + 1 := by omega
          have i5 : (k : Int) + 1 < (l.length : Int) := by omega
          have h9 : Below w.heap.size w wr.drew := bdrew hbl'
          clear hL
          cases b with
          | true =>
            have HR' : Hid (unAt l 1 = unAt (l.drop (k + 1)) (k + 1 + 1)) := by
              show _ = _
              rw [HS'.out, if_pos rfl]
            clear HS'
            go_wp2
            go_region_held3 (fun w' => w'.cell? ⟨g, off + k * 4, none⟩ = some (.int .i64 ep) ∧ w'.cell? ⟨g, off + k * 4 + 1, none⟩ = some (.int .u64 (rt : Int)) ∧ w'.cell? ⟨g, off + k * 4 + 2, none⟩ = some (.int .u64 (pv : Int)) ∧ w'.cell? ⟨g, off + k * 4 + 3, none⟩ = some (.int .i64 tm) ∧ w'.cell? ⟨g, off + (k + 1) * 4, none⟩ = some (.int .i64 fp) ∧ w'.cell? ⟨g, off + (k + 1) * 4 + 1, none⟩ = some (.int .u64 (st : Int)) ∧ w'.cell? ⟨g, off + (k + 1) * 4 + 2, none⟩ = some (.int .u64 (qv : Int)) ∧ w'.cell? ⟨g, off + (k + 1) * 4 + 3, none⟩ = some (.int .i64 um) ∧ Below w.heap.size w w') (first | exact ⟨h1, h2, h3, h4, j1, j2, j3, j4, h9⟩ | exact ⟨by assumption, by assumption, by assumption, by assumption, by assumption, by assumption, by assumption, by assumption, by assumption⟩ | go_keep)
              (first | (go_at_call 56; refine (hL' _ ?_).out.mono ?_; (first | exact ⟨by assumption, by assumption, by assumption, by assumption, by assumption, by assumption, by assumption, by assumption, by assumption⟩); rintro e w' ⟨rfl, k1, k2, k3, k4, k5, k6, k7, k8, k9⟩))
            go_wp2
            go_roundw
            case rel => exact ⟨k + 1, hlt, by go_num, HR', k9⟩
            case measure => simp [intOf]; omega
          | false =>
            have HR' : Hid ((8, k + 1) = (r, p)) := by
              show _ = _
              rw [← HQ.out, HS'.out, if_neg (by decide)]
            clear HS' HQ
            go_wp2
            go_region_held3 (fun w' => w'.cell? ⟨g, off + k * 4, none⟩ = some (.int .i64 ep) ∧ w'.cell? ⟨g, off + k * 4 + 1, none⟩ = some (.int .u64 (rt : Int)) ∧ w'.cell? ⟨g, off + k * 4 + 2, none⟩ = some (.int .u64 (pv : Int)) ∧ w'.cell? ⟨g, off + k * 4 + 3, none⟩ = some (.int .i64 tm) ∧ w'.cell? ⟨g, off + (k + 1) * 4, none⟩ = some (.int .i64 fp) ∧ w'.cell? ⟨g, off + (k + 1) * 4 + 1, none⟩ = some (.int .u64 (st : Int)) ∧ w'.cell? ⟨g, off + (k + 1) * 4 + 2, none⟩ = some (.int .u64 (qv : Int)) ∧ w'.cell? ⟨g, off + (k + 1) * 4 + 3, none⟩ = some (.int .i64 um) ∧ Below w.heap.size w w') (first | exact ⟨h1, h2, h3, h4, j1, j2, j3, j4, h9⟩ | exact ⟨by assumption, by assumption, by assumption, by assumption, by assumption, by assumption, by assumption, by assumption, by assumption⟩ | go_keep)
              (first | (go_at_call 56; refine (hL' _ ?_).out.mono ?_; (first | exact ⟨by assumption, by assumption, by assumption, by assumption, by assumption, by assumption, by assumption, by assumption, by assumption⟩); rintro e w' ⟨rfl, k1, k2, k3, k4, k5, k6, k7, k8, k9⟩))
            go_wp2
            go_ret2
            injection HR'.out with e1 e2
            subst e1; subst e2
            exact ⟨rfl, k9⟩
        · have HR' : Hid ((0, 0) = (r, p)) := by
            show _ = _
            rw [← HQ.out, HS.out, List.drop_eq_getElem_cons (by omega), List.drop_eq_nil_of_le (by omega)]
            rfl
          clear HS HQ
          go_wp2
          go_ret2
          injection HR'.out with e1 e2
          subst e1; subst e2
          exact ⟨rfl, hbl'⟩
end Go.Proofs.YtjcockcilkiggaaGreat
/- The reference's BookFault returns the first error of a book. It writes nothing that was there. -/
namespace Go.Proofs.YtjcockcilkiggaaGreat
open Go.RowKit

theorem refAhead' (a b : Bytes) (w : World) (ha : a.length ≤ maxLen) (hb : b.length ≤ maxLen) (r : Bool) (hr : decide (Bin.R a b) = r) :
    Calls Tryz.prog 58 #[.string (S a), .string (S b)] w fun e w' => e = .returned (.bool r) ∧ w' = w :=
  (refAhead a b w ha hb r hr).mono fun _ _ h => ⟨h.1, h.2.symm⟩

set_option maxRecDepth 100000 in
set_option maxHeartbeats 800000 in
theorem refFault (A : Option Addr) (c : Nat) (es : List Ent) (w : World) (hm : es.length ≤ maxLen) (hes : ∀ x ∈ es, x.1.length ≤ maxLen ∧ x.2.length ≤ maxLen) (hA : Row w A (encells es)) (r : Int) (hr : fault es = r) :
    Calls Tryz.prog 29 #[.slice A es.length c] w fun e w' => e = .returned (.int .i64 r) ∧ Below w.heap.size w w' := by
  unfold maxLen at hm
  by_cases h24 : 24 < es.length
  · have HR : Hid (r = 2) := by
      show r = 2
      rw [← hr, fault, if_pos h24]
    have c1 : decide ((24 : Int) < (es.length : Int)) = true := decide_eq_true (by omega)
    clear hr h24
    go_enter Tryz.func29, Tryz.ntmps29
    go_wp2
    go_ret
    exact ⟨by rw [HR.out]; rfl, Below.refl _ _⟩
  · have HR : Hid (r = faultFrom none es) := by
      show r = _
      rw [← hr, fault, if_neg h24]
    have c1 : decide ((24 : Int) < (es.length : Int)) = false := decide_eq_false (by omega)
    have HE := Lib.hid hes
    clear hr h24 hes
    go_enter Tryz.func29, Tryz.ntmps29
    go_wp2
    go_loopw [10] (fun i wr => ∃ k : Nat, k ≤ es.length ∧ i = .int .i64 k ∧ Hid (r = faultFrom (prevN es k) (es.drop k)) ∧ Below w.heap.size w wr) (fun i _ => es.length - (intOf i).toNat)
    case atStart => exact ⟨0, Nat.zero_le _, rfl, HR.out, Below.refl _ _⟩
    case round =>
      obtain ⟨k, hk, rfl, HS, hbl⟩ := hrel
      have hsz := hbl.size
      clear c1
      by_cases hlt : k < es.length
      · obtain ⟨g, off, rfl, h1, h2⟩ := (hA.below hbl).ent k hlt
        have hi0 : (0 : Int) ≤ (k : Int) := by omega
        have hi1 : (k : Int) < (es.length : Int) := by omega
        obtain ⟨hx1, hx2⟩ := HE.out _ (List.getElem_mem hlt)
        have HS' : Hid (r = if Bin.name es[k].1 = false then 3 else if 20 < es[k].2.length then 2 else if badAfter (prevN es k) es[k].1 = true then 3 else faultFrom (prevN es (k + 1)) (es.drop (k + 1))) := by
          show r = _
          rw [HS.out, List.drop_eq_getElem_cons hlt]
          rw [faultFrom, prevN, List.getElem?_eq_getElem hlt]
          rfl
        have hG := fun w => Lib.hid (goodName es[k].1 w hx1 _ rfl)
        cases hnm : Bin.name es[k].1 with
        | false =>
          rw [hnm] at hG
          have HR' : Hid (r = 3) := by
            show r = 3
            rw [HS'.out, if_pos hnm]
          clear HS HS' hnm hx1 hx2 hA
          generalize es[k].1 = a at *
          generalize es[k].2 = b at *
          go_wp2_with fail
          refine (hG _).out.mono ?_
          rintro e w1 ⟨rfl, rfl⟩
          go_wp2
          go_ret
          exact ⟨by rw [HR'.out]; rfl, hbl.alloc hsz _⟩
        | true =>
          rw [hnm] at hG
          rw [if_neg (by rw [hnm]; simp)] at HS'
          by_cases h20 : 20 < es[k].2.length
          · have c2 : decide ((20 : Int) < (es[k].2.length : Int)) = true := decide_eq_true (by omega)
            rw [if_pos h20] at HS'
            clear HS hnm hx1 hx2 hA h20
            generalize es[k].1 = a at *
            generalize es[k].2 = b at *
            go_wp2_with fail
            refine (hG _).out.mono ?_
            rintro e w1 ⟨rfl, rfl⟩
            go_wp2
            go_ret
            exact ⟨by rw [HS'.out]; rfl, hbl.alloc hsz _⟩
          · have c2 : decide ((20 : Int) < (es[k].2.length : Int)) = false := decide_eq_false (by omega)
            rw [if_neg h20] at HS'
            cases k with
            | zero =>
              rw [if_neg (by simp [prevN, badAfter])] at HS'
              rw [Nat.zero_mul, Nat.add_zero] at h1 h2
              clear HS hnm hx1 hx2 hA h20
              generalize es[0].1 = a at *
              generalize es[0].2 = b at *
              go_wp2_with fail
              refine (hG _).out.mono ?_
              rintro e w1 ⟨rfl, rfl⟩
              go_wp2
              go_quiet (fail)
              go_wp2
              go_roundw
              case rel => exact ⟨1, by omega, by go_num, HS', below_drewN (hbl.alloc hsz _) _⟩
              case measure => simp [intOf]; omega
            | succ j =>
              obtain ⟨g', off', e', h3, -⟩ := (hA.below hbl).ent j (by omega)
              injection e' with e'
              injection e' with e1 e2
              subst e1; subst e2
              obtain ⟨hy1, -⟩ := HE.out _ (List.getElem_mem (show j < es.length by omega))
              have hAh := fun w => Lib.hid (refAhead' es[j].1 es[j + 1].1 w hy1 hx1 _ rfl)
              rw [prevN, List.getElem?_eq_getElem (show j < es.length by omega), Option.map_some, badAfter] at HS'
              clear HS hnm hx1 hx2 hy1 hA h20
              generalize es[j + 1].1 = a at *
              generalize es[j + 1].2 = b at *
              generalize es[j].1 = y at *
              go_wp2_with fail
              refine (hG _).out.mono ?_
              rintro e w1 ⟨rfl, hw⟩
              have hbw : Below w.heap.size w w1 := by rw [← hw]; exact hbl.alloc hsz _
              have k1 : w1.cell? ⟨wr.heap.size, 0, none⟩ = some (.string (S a)) := by rw [← hw, World.cell?_alloc_new]; rfl
              have k2 : w1.cell? ⟨wr.heap.size, 1, none⟩ = some (.string (S b)) := by rw [← hw, World.cell?_alloc_new]; rfl
              have k3 : w1.cell? ⟨g, off + j * 2, none⟩ = some (.string (S y)) := by rw [← hw, World.cell?_alloc_lt _ _ _ (World.block_lt_of_cell? _ _ h3)]; exact h3
              clear hw h1 h2 h3 hG hbl
              generalize wr.heap.size = gx at *
              cases hR : decide (Bin.R y a) with
              | true =>
                rw [hR] at hAh HS'
                rw [if_neg (by simp)] at HS'
                clear hR
                go_wp2
                go_quiet (first | (go_at_call 58; refine Calls.quiet_of_same ((hAh _).out)))
                go_wp2
                go_roundw
                case rel => exact ⟨j + 2, by omega, by go_num, HS', below_drewN hbw _⟩
                case measure => simp [intOf]; omega
              | false =>
                rw [hR] at hAh HS'
                rw [if_pos (by simp)] at HS'
                clear hR
                go_wp2
                go_quiet (first | (go_at_call 58; refine Calls.quiet_of_same ((hAh _).out)))
                go_wp2
                go_ret
                exact ⟨by rw [HS'.out]; rfl, below_drewN hbw _⟩
      · have HR' : Hid (r = 0) := by
          show r = 0
          rw [HS.out, List.drop_eq_nil_of_le (by omega)]
          cases prevN es k <;> rfl
        go_wp2
        go_ret
        exact ⟨by rw [HR'.out]; rfl, hbl⟩
end Go.Proofs.YtjcockcilkiggaaGreat
/- The reference: what Levels' own function says of a prefix: its hash if it is in the map, else that of nothing. It writes nothing. -/
namespace Go.Proofs.YtjcockcilkiggaaGreat
open Go.RowKit Go.Maps

theorem zeroU (w : World) : (zeroValue 29).run Tryz.prog w = .ok (.int .u64 0) w := by kernel_rfl
theorem zeroE (w : World) : (zeroValue 39).run Tryz.prog w = .ok (.slice none 0 0) w := by kernel_rfl

set_option maxHeartbeats 400000 in
theorem levAt (q : Bytes) (w : World) (gM gN bM nM : Nat) (f : Bytes → Option Value) (hq : q.length ≤ maxLen) (hM : MapOf w bM nM f)
    (cM : w.cell? ⟨gM, 0, none⟩ = some (.map (some bM))) (cN : w.cell? ⟨gN, 0, none⟩ = some (.int .u64 (nil0 : Int))) (v : Nat) (hv : f q = some (.int .u64 (v : Int)) ∨ f q = none ∧ v = nil0) :
    Calls Tryz.prog 75 #[.string (S q), .pointer (some ⟨gM, 0, none⟩), .pointer (some ⟨gN, 0, none⟩)] w fun e w' => e = .returned (.int .u64 (v : Int)) ∧ w' = w := by
  generalize nil0 = z at *
  have hz := zeroU
  rcases hv with hf | ⟨hf, rfl⟩
  · go_enter Tryz.func75, Tryz.ntmps75
    go_wp2_with (first
      | (at_lookup; refine map_look_some _ rfl _ _ 99 rfl 29 Tryz.underlying99 _ (hz _) bM nM f rfl hM q hq rfl _ hf ?_))
    go_ret
    exact ⟨rfl, rfl⟩
  · go_enter Tryz.func75, Tryz.ntmps75
    go_wp2_with (first
      | (at_lookup; refine map_look_none _ rfl _ _ 99 rfl 29 Tryz.underlying99 _ (hz _) bM nM f rfl hM q hq rfl hf ?_))
    go_ret
    exact ⟨rfl, rfl⟩
theorem levAt_c (c : UInt8) (q : Bytes) (w : World) (n0 nM : Nat) (f : Bytes → Option Value) (hq : (q ++ [c]).length ≤ maxLen) (hM : MapOf w (n0 + 1) nM f)
    (cM : w.cell? ⟨n0 + 2, 0, none⟩ = some (.map (some (n0 + 1)))) (cN : w.cell? ⟨n0, 0, none⟩ = some (.int .u64 (nil0 : Int))) (v : Nat) (hv : f (q ++ [c]) = some (.int .u64 (v : Int)) ∨ f (q ++ [c]) = none ∧ v = nil0) :
    Calls Tryz.prog 75 #[.string (S q ++ ⟨#[c]⟩), .pointer (some ⟨n0 + 1 + 1, 0, none⟩), .pointer (some ⟨n0, 0, none⟩)] w fun e w' => e = .returned (.int .u64 (v : Int)) ∧ w' = w := by
  have h := levAt (q ++ [c]) w (n0 + 2) n0 (n0 + 1) nM f hq hM cM cN v hv
  rw [← S_append] at h
  exact h
end Go.Proofs.YtjcockcilkiggaaGreat
