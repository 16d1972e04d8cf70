/- The law BookOwn returns true: a book that is handed in stays as it was, and what is returned shares nothing with it: whatever is written into the results up to their capacity, the book stays. Condition: the form's reach. -/
import Derived.Test.YtmmmolbejfdamaaOwnW
import Derived.Test.YtmmmolbejfdamaaTreeLive
import Derived.Test.YtmmmolbejfdamaaEqs
import Derived.Test.YtmmmolbejfdamaaArgs
import Derived.Test.YtmmmolbejfdamaaLaw
namespace Go.Proofs.Ytmmmolbejfdamaa
set_option maxRecDepth 100000
open Go.ChangeShapes Go.WideShapes Go.ChangeAt Go.RowKit

theorem ent_cell {w : World} {g m : Nat} {ys : List Ent} (hc : w.heap[g]? = some (.cells (encells ys).toArray 34 (0, 0))) (h : m < ys.length) :
    w.cell? ⟨g, m * 2 + 1, none⟩ = some (.string (S ys[m].2)) ∧ w.frozen? ⟨g, m * 2 + 1, none⟩ = false := by
  constructor
  · have := (encells_get ys m h).2
    simp [World.cell?, hc, this]
  · simp [World.frozen?, hc]
theorem ent_put {w : World} {g m : Nat} {ys : List Ent} (v : Bytes) (hc : w.heap[g]? = some (.cells (encells ys).toArray 34 (0, 0))) (h : m < ys.length) :
    (w.setCell ⟨g, m * 2 + 1, none⟩ (.string (S v))).heap[g]? = some (.cells (encells (ys.set m (ys[m].1, v))).toArray 34 (0, 0)) := by
  rw [setCell_eq_setRow w g _ _ _ _ _ hc, setRow_heap w g _ _ _ _ hc, encells_put ys m h v]

theorem slice_info : ∃ i, Try.prog.info? 22 = some i ∧ i.size = 1 := by
  have h : (Try.prog.info? 22).map (fun i => i.size) = some 1 := by kernel_rfl
  obtain ⟨i, hi, he⟩ := Option.map_eq_some_iff.1 h
  exact ⟨i, hi, he⟩
/-- An element of an array of four slices. -/
theorem four_at (w : World) (v0 v1 v2 v3 : Value) (j : Nat) (z : Int) (hz : z = (j : Int)) (hj : j < 4) (v : Value) (hv : [v0, v1, v2, v3][j]? = some v) : (Instr.index 61 (.agg #[v0, v1, v2, v3]) (.int .i64 z)).run Try.prog w = .ok v w := by
  obtain ⟨i, hi, hs⟩ := slice_info
  subst hz
  simp [Instr.index, asIntOf, run_underlying Try.underlying61, sizeOf, typeInfo, hi, hs, part, isAgg, run_underlying Try.underlying22, hj]
  exact (List.getElem?_eq_some_iff.1 hv).2

set_option maxHeartbeats 4000000 in
theorem bookOwn_walk (A C : Option Addr) (ca cc : Nat) (l c : List Ent) (n v : Bytes) (w : World) (hm : l.length ≤ maxLen) (hsz : l.length * 32 ≤ 140737488351232) (hes : ∀ x ∈ l, x.1.length ≤ maxLen ∧ x.2.length ≤ maxLen) (hca : l.length ≤ ca) (hmc : c.length ≤ maxLen) (hec : ∀ x ∈ c, x.1.length ≤ maxLen ∧ x.2.length ≤ maxLen)
    (hn : n.length ≤ maxLen) (hv : v.length ≤ maxLen) (hA : Row w A (encells l)) (hC : Row w C (encells c)) :
    Calls Try.prog 7 #[.slice A l.length ca, .slice C c.length cc, .string (S n), .string (S v)] w fun e w' => e = .returned (.bool true) ∧ Below w.heap.size w w' := by
  have hL := fun w => Lib.hid (trees w)
  have hCl := fun (w : World) hA => Lib.hid (cloneEnts A ca l w hsz hA)
  have h1 := fun (w : World) hA => Lib.hid (setW A ca l n v w hm hes hca hn hv hA)
  have h2 := fun (w : World) hA => Lib.hid (dropW A ca l n w hm hes hca hn hA)
  have h3 := fun (w : World) hA hC => Lib.hid (applyW A C ca cc l c w hm hes hmc hec hA hC)
  have h4 := fun (w : World) hA => Lib.hid (makeW A ca l n w hm hes hn hA)
  have hQ := fun (D : Option Addr) (d : Nat) (w : World) hA hD => Lib.hid (eqEnts A D ca d l l w hm true (decide_eq_true rfl) hA hD)
  clear hm hsz hes hca hmc hec hn hv
  go_enter Try.func7, Try.ntmps7
  go_wp2_with fail
  refine (hL _).out.mono ?_
  rintro e w1 ⟨rfl, hb1⟩
  go_wp2_with fail
  refine (hCl _ (hA.below hb1)).out.mono ?_
  rintro e w2 ⟨D2, d2, rfl, hr2, hb2⟩
  have hb02 := below_chain hb1 hb2
  have hA2 := hA.below hb02
  have hC2 := hC.below hb02
  clear hL hCl hb1 hb2 hA hC
  go_wp2_with fail
  refine (h1 _ hA2).out.mono ?_
  rintro e w3 ⟨A3, n3, p3, r3, rfl, hw3, hb3⟩
  go_wp2_with fail
  refine (h2 _ (hA2.below hb3)).out.mono ?_
  rintro e w4 ⟨A4, n4, p4, r4, rfl, hw4, hb4⟩
  have hb24 := below_chain hb3 hb4
  have hw34 := hw3.below hb4
  go_wp2_with fail
  refine (h3 _ (hA2.below hb24) (hC2.below hb24)).out.mono ?_
  rintro e w5 ⟨A5, n5, p5, r5, rfl, hw5, hb5⟩
  have hb25 := below_chain hb24 hb5
  have hw35 := hw34.below hb5
  have hw45 := hw4.below hb5
  go_wp2_with fail
  refine (h4 _ (hA2.below hb25)).out.mono ?_
  rintro e w6 ⟨s6, A6, n6, p6, E6, k6, f6, r6, rfl, hw6, hb6⟩
  have hb26 := below_chain hb25 hb6
  have hw36 := hw35.below hb6
  have hw46 := hw45.below hb6
  have hw56 := hw5.below hb6
  have hs23 := hb3.size
  have hs34 := hb4.size
  have hs45 := hb5.size
  have hs56 := hb6.size
  have hb7 := balloc (Below.refl w6.heap.size w6) (.cells #[.string s6, .slice A6 n6 p6, .slice E6 k6 f6] 53)
  have hb27 := below_chain hb26 hb7
  have hw37 := hw36.below hb7
  have hw47 := hw46.below hb7
  have hw57 := hw56.below hb7
  have hw67 := hw6.below hb7
  have x1 : (w6.alloc (.cells #[.string s6, .slice A6 n6 p6, .slice E6 k6 f6] 53)).cell? ⟨w6.heap.size, 1, none⟩ = some (.slice A6 n6 p6) := by rw [World.cell?_alloc_new]; rfl
  clear h1 h2 h3 h4 hb3 hb4 hb5 hb6 hb24 hb25 hb26 hw3 hw4 hw5 hw6 hw34 hw35 hw45 hw36 hw46 hw56 hC2
  go_wp2_with fail
  refine (hQ _ _ _ (hA2.below hb27) (hr2.below hb27)).out.mono ?_
  rintro e w8 ⟨rfl, m8, hw8⟩
  have hb8 : Below (w6.alloc (.cells #[.string s6, .slice A6 n6 p6, .slice E6 k6 f6] 53)).heap.size (w6.alloc (.cells #[.string s6, .slice A6 n6 p6, .slice E6 k6 f6] 53)) w8 := by rw [hw8]; exact below_of_drewN _ _ _
  have hb28 := below_chain hb27 hb8
  have hw38 := hw37.below hb8
  have hw48 := hw47.below hb8
  have hw58 := hw57.below hb8
  have hw68 := hw67.below hb8
  have x18 := kept x1 hb8
  have hs8 := hb8.size
  have hs68 : w6.heap.size ≤ w8.heap.size := Nat.le_trans hb7.size hb8.size
  clear hw8 hb8 hb7 hb27 hw37 hw47 hw57 hw67 x1 hs8
  generalize w3.heap.size = u3 at *
  generalize w4.heap.size = u4 at *
  generalize w5.heap.size = u5 at *
  generalize w6.heap.size = u6 at *
  go_wp2_with fail
  go_loopw [60] (fun i wr => ∃ k : Nat, k ≤ 4 ∧ i = .int .i64 k ∧ Below w2.heap.size w2 wr ∧ u6 ≤ wr.heap.size ∧ (k < 1 → WR wr w2.heap.size u3 A3 n3 p3) ∧ (k < 2 → WR wr u3 u4 A4 n4 p4) ∧ (k < 3 → WR wr u4 u5 A5 n5 p5) ∧ (k < 4 → WR wr u5 u6 A6 n6 p6)) (fun i _ => 4 - (intOf i).toNat)
  case atStart => exact ⟨0, by omega, rfl, hb28, hs68, fun _ => hw38, fun _ => hw48, fun _ => hw58, fun _ => hw68⟩
  case round =>
    obtain ⟨k, hk, rfl, hbl, hszr, q0, q1, q2, q3⟩ := hrel
    clear hw38 hw48 hw58 hw68 x18 hb28 hs68
    have hk4 : k = 0 ∨ k = 1 ∨ k = 2 ∨ k = 3 ∨ k = 4 := by omega
    have i0 := fun w => four_at w (.slice A3 n3 p3) (.slice A4 n4 p4) (.slice A5 n5 p5) (.slice A6 n6 p6) 0 0 rfl (by omega) _ rfl
    have i1 := fun w => four_at w (.slice A3 n3 p3) (.slice A4 n4 p4) (.slice A5 n5 p5) (.slice A6 n6 p6) 1 1 rfl (by omega) _ rfl
    have i2 := fun w => four_at w (.slice A3 n3 p3) (.slice A4 n4 p4) (.slice A5 n5 p5) (.slice A6 n6 p6) 2 2 rfl (by omega) _ rfl
    have i3 := fun w => four_at w (.slice A3 n3 p3) (.slice A4 n4 p4) (.slice A5 n5 p5) (.slice A6 n6 p6) 3 3 rfl (by omega) _ rfl
    rcases hk4 with rfl | rfl | rfl | rfl | rfl
    · obtain ⟨hnp, hpm, hcs⟩ := q0 (by omega)
      have e1 := q1 (by omega)
      have e2 := q2 (by omega)
      have e3 := q3 (by omega)
      clear q0 q1 q2 q3 hk hr2 hA2 hQ
      rcases hcs with rfl | ⟨g, ys, rfl, hlo, hhi, hy, hc, hsh⟩
      · obtain rfl : n3 = 0 := by omega
        go_wp2_with fail
        go_loopw [69] (fun i w' => i = .int .i64 0 ∧ wr = w') (fun _ _ => 0)
        case atStart => exact ⟨rfl, rfl⟩
        case round =>
          obtain ⟨rfl, rfl⟩ := hrel
          go_wp2
          go_roundw
          case rel => exact ⟨1, by omega, by go_num, hbl, hszr, fun h => absurd h (by omega), fun _ => e1, fun _ => e2, fun _ => e3⟩
          case measure => simp [intOf]
      · have hH : Hid (n3 ≤ p3) := hnp
        have hM : Hid (p3 ≤ maxLen) := hpm
        have hcm : p3 ≤ 9223372036854775807 := hpm
        clear hnp hpm
        go_wp2_with fail
        go_loopw [69] (fun i w' => ∃ (m : Nat) (zs : List Ent), m ≤ p3 ∧ i = .int .i64 m ∧ Hid (zs.length = p3) ∧ w'.heap[g]? = some (.cells (encells zs).toArray 34 (0, 0)) ∧ wr.grownBy w' (some g) ∧ Hid (∀ j (h : j < zs.length), m ≤ j → zs[j].2.length ≤ 1000)) (fun i _ => p3 - (intOf i).toNat)
        case atStart => exact ⟨0, ys, Nat.zero_le _, rfl, hy, hc, World.grownBy.refl _ _, fun j h _ => hsh _ (List.getElem_mem h)⟩
        case round =>
          obtain ⟨m, zs, hm, rfl, hzl, hcz, hgr, hzs⟩ := hrel
          clear hc hy hsh
          by_cases hlt : m < p3
          · have hmz : m < zs.length := by rw [hzl.out]; exact hlt
            obtain ⟨g1, g2⟩ := ent_cell hcz hmz
            have hP := fun v => ent_put v hcz hmz
            have hl1 := hzs.out m hmz (Nat.le_refl _)
            have hi0 : (0 : Int) ≤ (m : Int) := by omega
            have hi1 : (m : Int) < (p3 : Int) := by omega
            have hP1 := hP (zs[m].2 ++ [33])
            have hz1 : Hid (∀ j (h : j < (zs.set m (zs[m].1, zs[m].2 ++ [33])).length), m + 1 ≤ j → (zs.set m (zs[m].1, zs[m].2 ++ [33]))[j].2.length ≤ 1000) := fun j h hj => by
              rw [List.getElem_set_ne (by omega)]
              exact hzs.out j (by rw [List.length_set] at h; exact h) (by omega)
            have hz2 : Hid ((zs.set m (zs[m].1, zs[m].2 ++ [33])).length = p3) := by show _ = _; rw [List.length_set, hzl.out]
            generalize zs.set m (zs[m].1, zs[m].2 ++ [33]) = zs' at *
            have hg1 := hgr.trans (grown_set _ ⟨g, m * 2 + 1, none⟩ (.string (S (zs[m].2 ++ [33]))))
            clear hP hcz hzs hzl
            generalize zs[m].2 = sv at *
            go_wp2
            go_roundw
            case rel => exact ⟨m + 1, zs', by omega, by go_num, hz2, hP1, hg1, hz1⟩
            case measure => simp [intOf]; omega
          · have hbl' := hbl.grown hgr (Nat.le_trans (by omega) hszr) (fun k hk => by injection hk with hk; omega)
            have hszr' := Nat.le_trans hszr hgr.size
            have e1' := e1.far hgr (by omega)
            have e2' := e2.far hgr (by omega)
            have e3' := e3.far hgr (by omega)
            clear hcz hzs hzl hgr hbl
            go_wp2
            go_roundw
            case rel => exact ⟨1, by omega, by go_num, hbl', hszr', fun h => absurd h (by omega), fun _ => e1', fun _ => e2', fun _ => e3'⟩
            case measure => simp [intOf]
    · obtain ⟨hnp, hpm, hcs⟩ := q1 (by omega)
      have e2 := q2 (by omega)
      have e3 := q3 (by omega)
      clear q0 q1 q2 q3 hk hr2 hA2 hQ
      rcases hcs with rfl | ⟨g, ys, rfl, hlo, hhi, hy, hc, hsh⟩
      · obtain rfl : n4 = 0 := by omega
        go_wp2_with fail
        go_loopw [69] (fun i w' => i = .int .i64 0 ∧ wr = w') (fun _ _ => 0)
        case atStart => exact ⟨rfl, rfl⟩
        case round =>
          obtain ⟨rfl, rfl⟩ := hrel
          go_wp2
          go_roundw
          case rel => exact ⟨2, by omega, by go_num, hbl, hszr, fun h => absurd h (by omega), fun h => absurd h (by omega), fun _ => e2, fun _ => e3⟩
          case measure => simp [intOf]
      · have hH : Hid (n4 ≤ p4) := hnp
        have hM : Hid (p4 ≤ maxLen) := hpm
        have hcm : p4 ≤ 9223372036854775807 := hpm
        clear hnp hpm
        go_wp2_with fail
        go_loopw [69] (fun i w' => ∃ (m : Nat) (zs : List Ent), m ≤ p4 ∧ i = .int .i64 m ∧ Hid (zs.length = p4) ∧ w'.heap[g]? = some (.cells (encells zs).toArray 34 (0, 0)) ∧ wr.grownBy w' (some g) ∧ Hid (∀ j (h : j < zs.length), m ≤ j → zs[j].2.length ≤ 1000)) (fun i _ => p4 - (intOf i).toNat)
        case atStart => exact ⟨0, ys, Nat.zero_le _, rfl, hy, hc, World.grownBy.refl _ _, fun j h _ => hsh _ (List.getElem_mem h)⟩
        case round =>
          obtain ⟨m, zs, hm, rfl, hzl, hcz, hgr, hzs⟩ := hrel
          clear hc hy hsh
          by_cases hlt : m < p4
          · have hmz : m < zs.length := by rw [hzl.out]; exact hlt
            obtain ⟨g1, g2⟩ := ent_cell hcz hmz
            have hP := fun v => ent_put v hcz hmz
            have hl1 := hzs.out m hmz (Nat.le_refl _)
            have hi0 : (0 : Int) ≤ (m : Int) := by omega
            have hi1 : (m : Int) < (p4 : Int) := by omega
            have hP1 := hP (zs[m].2 ++ [33])
            have hz1 : Hid (∀ j (h : j < (zs.set m (zs[m].1, zs[m].2 ++ [33])).length), m + 1 ≤ j → (zs.set m (zs[m].1, zs[m].2 ++ [33]))[j].2.length ≤ 1000) := fun j h hj => by
              rw [List.getElem_set_ne (by omega)]
              exact hzs.out j (by rw [List.length_set] at h; exact h) (by omega)
            have hz2 : Hid ((zs.set m (zs[m].1, zs[m].2 ++ [33])).length = p4) := by show _ = _; rw [List.length_set, hzl.out]
            generalize zs.set m (zs[m].1, zs[m].2 ++ [33]) = zs' at *
            have hg1 := hgr.trans (grown_set _ ⟨g, m * 2 + 1, none⟩ (.string (S (zs[m].2 ++ [33]))))
            clear hP hcz hzs hzl
            generalize zs[m].2 = sv at *
            go_wp2
            go_roundw
            case rel => exact ⟨m + 1, zs', by omega, by go_num, hz2, hP1, hg1, hz1⟩
            case measure => simp [intOf]; omega
          · have hbl' := hbl.grown hgr (Nat.le_trans (by omega) hszr) (fun k hk => by injection hk with hk; omega)
            have hszr' := Nat.le_trans hszr hgr.size
            have e2' := e2.far hgr (by omega)
            have e3' := e3.far hgr (by omega)
            clear hcz hzs hzl hgr hbl
            go_wp2
            go_roundw
            case rel => exact ⟨2, by omega, by go_num, hbl', hszr', fun h => absurd h (by omega), fun h => absurd h (by omega), fun _ => e2', fun _ => e3'⟩
            case measure => simp [intOf]
    · obtain ⟨hnp, hpm, hcs⟩ := q2 (by omega)
      have e3 := q3 (by omega)
      clear q0 q1 q2 q3 hk hr2 hA2 hQ
      rcases hcs with rfl | ⟨g, ys, rfl, hlo, hhi, hy, hc, hsh⟩
      · obtain rfl : n5 = 0 := by omega
        go_wp2_with fail
        go_loopw [69] (fun i w' => i = .int .i64 0 ∧ wr = w') (fun _ _ => 0)
        case atStart => exact ⟨rfl, rfl⟩
        case round =>
          obtain ⟨rfl, rfl⟩ := hrel
          go_wp2
          go_roundw
          case rel => exact ⟨3, by omega, by go_num, hbl, hszr, fun h => absurd h (by omega), fun h => absurd h (by omega), fun h => absurd h (by omega), fun _ => e3⟩
          case measure => simp [intOf]
      · have hH : Hid (n5 ≤ p5) := hnp
        have hM : Hid (p5 ≤ maxLen) := hpm
        have hcm : p5 ≤ 9223372036854775807 := hpm
        clear hnp hpm
        go_wp2_with fail
        go_loopw [69] (fun i w' => ∃ (m : Nat) (zs : List Ent), m ≤ p5 ∧ i = .int .i64 m ∧ Hid (zs.length = p5) ∧ w'.heap[g]? = some (.cells (encells zs).toArray 34 (0, 0)) ∧ wr.grownBy w' (some g) ∧ Hid (∀ j (h : j < zs.length), m ≤ j → zs[j].2.length ≤ 1000)) (fun i _ => p5 - (intOf i).toNat)
        case atStart => exact ⟨0, ys, Nat.zero_le _, rfl, hy, hc, World.grownBy.refl _ _, fun j h _ => hsh _ (List.getElem_mem h)⟩
        case round =>
          obtain ⟨m, zs, hm, rfl, hzl, hcz, hgr, hzs⟩ := hrel
          clear hc hy hsh
          by_cases hlt : m < p5
          · have hmz : m < zs.length := by rw [hzl.out]; exact hlt
            obtain ⟨g1, g2⟩ := ent_cell hcz hmz
            have hP := fun v => ent_put v hcz hmz
            have hl1 := hzs.out m hmz (Nat.le_refl _)
            have hi0 : (0 : Int) ≤ (m : Int) := by omega
            have hi1 : (m : Int) < (p5 : Int) := by omega
            have hP1 := hP (zs[m].2 ++ [33])
            have hz1 : Hid (∀ j (h : j < (zs.set m (zs[m].1, zs[m].2 ++ [33])).length), m + 1 ≤ j → (zs.set m (zs[m].1, zs[m].2 ++ [33]))[j].2.length ≤ 1000) := fun j h hj => by
              rw [List.getElem_set_ne (by omega)]
              exact hzs.out j (by rw [List.length_set] at h; exact h) (by omega)
            have hz2 : Hid ((zs.set m (zs[m].1, zs[m].2 ++ [33])).length = p5) := by show _ = _; rw [List.length_set, hzl.out]
            generalize zs.set m (zs[m].1, zs[m].2 ++ [33]) = zs' at *
            have hg1 := hgr.trans (grown_set _ ⟨g, m * 2 + 1, none⟩ (.string (S (zs[m].2 ++ [33]))))
            clear hP hcz hzs hzl
            generalize zs[m].2 = sv at *
            go_wp2
            go_roundw
            case rel => exact ⟨m + 1, zs', by omega, by go_num, hz2, hP1, hg1, hz1⟩
            case measure => simp [intOf]; omega
          · have hbl' := hbl.grown hgr (Nat.le_trans (by omega) hszr) (fun k hk => by injection hk with hk; omega)
            have hszr' := Nat.le_trans hszr hgr.size
            have e3' := e3.far hgr (by omega)
            clear hcz hzs hzl hgr hbl
            go_wp2
            go_roundw
            case rel => exact ⟨3, by omega, by go_num, hbl', hszr', fun h => absurd h (by omega), fun h => absurd h (by omega), fun h => absurd h (by omega), fun _ => e3'⟩
            case measure => simp [intOf]
    · obtain ⟨hnp, hpm, hcs⟩ := q3 (by omega)
      clear q0 q1 q2 q3 hk hr2 hA2 hQ
      rcases hcs with rfl | ⟨g, ys, rfl, hlo, hhi, hy, hc, hsh⟩
      · obtain rfl : n6 = 0 := by omega
        go_wp2_with fail
        go_loopw [69] (fun i w' => i = .int .i64 0 ∧ wr = w') (fun _ _ => 0)
        case atStart => exact ⟨rfl, rfl⟩
        case round =>
          obtain ⟨rfl, rfl⟩ := hrel
          go_wp2
          go_roundw
          case rel => exact ⟨4, by omega, by go_num, hbl, hszr, fun h => absurd h (by omega), fun h => absurd h (by omega), fun h => absurd h (by omega), fun h => absurd h (by omega)⟩
          case measure => simp [intOf]
      · have hH : Hid (n6 ≤ p6) := hnp
        have hM : Hid (p6 ≤ maxLen) := hpm
        have hcm : p6 ≤ 9223372036854775807 := hpm
        clear hnp hpm
        go_wp2_with fail
        go_loopw [69] (fun i w' => ∃ (m : Nat) (zs : List Ent), m ≤ p6 ∧ i = .int .i64 m ∧ Hid (zs.length = p6) ∧ w'.heap[g]? = some (.cells (encells zs).toArray 34 (0, 0)) ∧ wr.grownBy w' (some g) ∧ Hid (∀ j (h : j < zs.length), m ≤ j → zs[j].2.length ≤ 1000)) (fun i _ => p6 - (intOf i).toNat)
        case atStart => exact ⟨0, ys, Nat.zero_le _, rfl, hy, hc, World.grownBy.refl _ _, fun j h _ => hsh _ (List.getElem_mem h)⟩
        case round =>
          obtain ⟨m, zs, hm, rfl, hzl, hcz, hgr, hzs⟩ := hrel
          clear hc hy hsh
          by_cases hlt : m < p6
          · have hmz : m < zs.length := by rw [hzl.out]; exact hlt
            obtain ⟨g1, g2⟩ := ent_cell hcz hmz
            have hP := fun v => ent_put v hcz hmz
            have hl1 := hzs.out m hmz (Nat.le_refl _)
            have hi0 : (0 : Int) ≤ (m : Int) := by omega
            have hi1 : (m : Int) < (p6 : Int) := by omega
            have hP1 := hP (zs[m].2 ++ [33])
            have hz1 : Hid (∀ j (h : j < (zs.set m (zs[m].1, zs[m].2 ++ [33])).length), m + 1 ≤ j → (zs.set m (zs[m].1, zs[m].2 ++ [33]))[j].2.length ≤ 1000) := fun j h hj => by
              rw [List.getElem_set_ne (by omega)]
              exact hzs.out j (by rw [List.length_set] at h; exact h) (by omega)
            have hz2 : Hid ((zs.set m (zs[m].1, zs[m].2 ++ [33])).length = p6) := by show _ = _; rw [List.length_set, hzl.out]
            generalize zs.set m (zs[m].1, zs[m].2 ++ [33]) = zs' at *
            have hg1 := hgr.trans (grown_set _ ⟨g, m * 2 + 1, none⟩ (.string (S (zs[m].2 ++ [33]))))
            clear hP hcz hzs hzl
            generalize zs[m].2 = sv at *
            go_wp2
            go_roundw
            case rel => exact ⟨m + 1, zs', by omega, by go_num, hz2, hP1, hg1, hz1⟩
            case measure => simp [intOf]; omega
          · have hbl' := hbl.grown hgr (Nat.le_trans (by omega) hszr) (fun k hk => by injection hk with hk; omega)
            have hszr' := Nat.le_trans hszr hgr.size
            clear hcz hzs hzl hgr hbl
            go_wp2
            go_roundw
            case rel => exact ⟨4, by omega, by go_num, hbl', hszr', fun h => absurd h (by omega), fun h => absurd h (by omega), fun h => absurd h (by omega), fun h => absurd h (by omega)⟩
            case measure => simp [intOf]
    · have hA9 := hA2.below hbl
      have hr9 := hr2.below hbl
      have hb09 := below_chain hb02 hbl
      clear q0 q1 q2 q3
      go_wp2_with fail
      refine (hQ _ _ _ hA9 hr9).out.mono ?_
      rintro e w9 ⟨rfl, m9, hw9⟩
      have hb10 : Below w.heap.size w w9 := by rw [hw9]; exact below_drewN hb09 _
      clear hQ hw9 hb09 hA9 hr9
      go_wp2
      go_ret
      exact ⟨rfl, hb10⟩
theorem brief_of_bytes {a : Nat} (h : a * 32 ≤ 140737488351232) : a ≤ maxLen := by unfold maxLen; omega
set_option maxRecDepth 100000 in
theorem bookOwn_lifted (os : Os) (started : os.Started) (H : Type) (enc : TypeId × Value → H) :
    ReturnsInHanded {} Try.checked os 7 .any (Rows.bookOwnSpec.pre6 enc Try.prog Try.f7 Rows.bookOwnRow.domain false) (Rows.bookOwnSpec.post enc Try.prog Try.f7 false true false false) := by
  refine returnsInHanded_of_change_sized (C := Try.checked) own started (by kernel_rfl) Try.func7
    (ChangeSpec.witness6 (enc := enc) (C := Try.checked) false ⟨#[], #[.slice none 0 0, .slice none 0 0, .string ⟨#[]⟩, .string ⟨#[]⟩], []⟩ 8 (by kernel_rfl) (by kernel_rfl) (by kernel_rfl) (by kernel_rfl)) ?_
  intro W base args ds gs before hval0 hW hcnd hsz _
  have hval : ∀ (j : Nat) t v, Try.f7.params[j]? = some t → args[j]? = some v → Value.okWide Try.prog W .any base t v := hval0
  have hW' := hW
  obtain ⟨p, q, hA0, hV, rfl, hfz, hnd⟩ := hW
  have hA : DataW.TrodAll enc Try.prog W 0 (fun _ => true) true Try.f7.params.toList args.toList ds p := hA0
  rw [Try.params7] at hA hval
  obtain ⟨v0, vs0, d0, ds0, p0, q0, hargs, rfl, rfl, h0, r0⟩ := trodAll_cons hA
  obtain ⟨v1, vs1, d1, ds1, p1, q1, rfl, rfl, rfl, h1, r1⟩ := trodAll_cons r0
  obtain ⟨v2, vs2, d2, ds2, p2, q2, rfl, rfl, rfl, h2, r2⟩ := trodAll_cons r1
  obtain ⟨v3, vs3, d3, ds3, p3, q3, rfl, rfl, rfl, h3, r3⟩ := trodAll_cons r2
  obtain ⟨rfl, rfl, rfl⟩ := trodAll_nil r3
  obtain rfl : args = #[v0, v1, v2, v3] := by cases args; simp_all
  obtain ⟨rfl, rfl⟩ := trodVars_none hV
  rw [Try.params7] at hsz
  obtain ⟨A0, c0, s0, rfl, hm0, hr0, hs0, hc0⟩ := arg_ents_sized (j := 0) hsz rfl rfl (hval 0 22 v0 rfl rfl) h0
  obtain ⟨A1, c1, s1, rfl, hm1, hr1, hs1, hc1, -⟩ := arg_ents (hval 1 22 v1 rfl rfl) h1
  obtain ⟨l2, rfl, hl2⟩ := arg_str (hval 2 9 v2 rfl rfl) h2
  obtain ⟨l3, rfl, hl3⟩ := arg_str (hval 3 9 v3 rfl rfl) h3
  refine (bookOwn_walk A0 A1 c0 c1 s0 s1 l2 l3 _ (brief_of_bytes hm0) hm0 hs0 hc0 hm1 hs1 hl2 hl3 hr0 hr1).mono fun e W' ⟨he, hb⟩ => ?_
  subst he
  exact ⟨_, rfl, post_law laidOut (by decide +kernel) rfl Try.underlying4 (by kernel_rfl) hW' rfl hb⟩

/-- The statement. -/
theorem bookOwn_said : Rows.BookOwnSaid :=
  OpenClaim.holds_of_wide 7 Try.f7 rfl rfl rfl rfl rfl rfl rfl ⟨rfl, rfl, rfl, rfl, rfl⟩ rfl rfl rfl rfl rfl (by kernel_rfl) Try.func7 (by kernel_rfl)
    (of_decide_eq_true (by kernel_rfl)) (by unfold Func.isWrapper; first | (rw [if_pos (by decide +kernel)]; kernel_rfl) | (rw [if_neg (by decide +kernel)]; exact ⟨rfl, rfl⟩))
    (fun os started H enc _ => bookOwn_lifted os started H enc)
#print axioms bookOwn_said
end Go.Proofs.Ytmmmolbejfdamaa
