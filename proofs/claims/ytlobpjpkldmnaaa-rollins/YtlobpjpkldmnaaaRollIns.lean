/- RollIns: the inclusion proof of every string verifies; not against another root, and not with one hash more. -/
import Derived.Test.YtlobpjpkldmnaaaRollLive
import Derived.Test.YtlobpjpkldmnaaaRollArgs
import Derived.Deep.RegionHeld3
namespace Go.Proofs.Ytlobpjpkldmnaaa
set_option maxRecDepth 100000
open Go.ChangeShapes Go.WideShapes Go.ChangeAt Go.RowKit

theorem own_base1 {w : World} {base b' size : Nat} {e : TypeId} {v : Value} {n : Nat} {xs : List Value} (h : w.ownsRow base e size v n xs) (hb : b' ≤ base) : w.ownsRow b' e size v n xs := by
  refine ⟨h.1, ?_⟩
  rcases h.2 with h0 | ⟨g, cap, cur, hv, h1, rest⟩
  · exact .inl h0
  · exact .inr ⟨g, cap, cur, hv, Nat.le_trans hb h1, rest⟩
set_option maxHeartbeats 1000000 in
theorem rollIns_no (A : Option Addr) (c : Nat) (l : List Bytes) (i : Int) (w : World) (hm : l.length ≤ maxLen) (hl : ∀ s ∈ l, s.length ≤ maxLen) (hA : Row w A (scells l)) (h0 : inErr l i ≠ 0) :
    Calls Try.prog 5 #[.slice A l.length c, .int .i64 i] w fun e w' => e = .returned (.bool true) ∧ Below w.heap.size w w' := by
  have hL := fun w => Lib.hid (rolls w)
  have hG := fun w hA => Lib.hid (rollIn_no A c l i w hm hl hA _ rfl h0)
  have c1 : (inErr l i != 0) = true := bne_iff_ne.2 h0
  have c2 : (inErr l i == 0) = false := beq_eq_false_iff_ne.2 h0
  generalize inErr l i = r at *
  clear hm hl h0
  go_enter Try.func5, Try.ntmps5
  go_wp2_with fail
  refine (hL _).out.mono ?_
  rintro e w1 ⟨rfl, hb1⟩
  go_wp2_with fail
  refine (hG _ (hA.below hb1)).out.mono ?_
  rintro e w2 ⟨rfl, hw⟩
  subst hw
  go_wp2
  go_ret
  exact ⟨rfl, hb1⟩

set_option maxHeartbeats 4000000 in
theorem rollIns_yes (A : Option Addr) (c : Nat) (l : List Bytes) (i : Nat) (w : World) (hg : RGood l) (hc : l.length ≤ c) (hi : i < l.length) (hA : Row w A (scells l)) :
    Calls Try.prog 5 #[.slice A l.length c, .int .i64 (i : Int)] w fun e w' => e = .returned (.bool true) ∧ Below w.heap.size w w' := by
  have hL := fun w => Lib.hid (rolls w)
  have hG := fun w hA => Lib.hid (rollIn_yes A c l i w hg hc hi hA)
  have hRb := fun w hA => Lib.hid (rollRoot_yes A c l w hg hc hA _ rfl)
  have hb : rhash l < 2305843009213693951 := rhash_lt _
  have hle := hg.le
  have hLe : (inn l i).length ≤ 40 := Nat.le_trans (inn_le _ _) hle
  have hLt := inn_lt l i
  have hti := hg.each _ (List.getElem_mem hi)
  have hY := isAns_inn l i hi (rhash l) true (decide_eq_true rfl)
  have hN := isAns_inn l i hi (rhash l + 1) false (decide_eq_false (by omega))
  have hS := isAns_long l.length i l[i] (inn l i) (inn l i ++ [0]) (rhash l) (inn_length l i) (by simp)
  have hI := fun (B : Option Addr) (d : Nat) (w : World) hd hdm hB => Lib.hid (rollIsIn_yes (rhash l) l.length i l[i] (inn l i) B d (inn l i).length w hg.pos hle hi hti hLt rfl hd hdm hB true hY)
  have hJ := fun (B : Option Addr) (d : Nat) (w : World) hd hdm hB => Lib.hid (rollIsIn_yes (rhash l + 1) l.length i l[i] (inn l i) B d (inn l i).length w hg.pos hle hi hti hLt rfl hd hdm hB false hN)
  have hLong := fun (B : Option Addr) (d : Nat) (w : World) hd hdm hB => Lib.hid (rollIsIn_yes (rhash l) l.length i l[i] (inn l i ++ [0]) B d ((inn l i).length + 1) w hg.pos hle hi hti (fun z hz => by
    rcases List.mem_append.1 hz with h | h
    · exact hLt z h
    · rw [List.mem_singleton] at h; omega) (by simp) hd hdm hB false hS)
  have hCl := fun (B : Option Addr) (d : Nat) (w : World) hB => Lib.hid (cloneOwn B d (inn l i) w (by omega) hB)
  have h4 := fun w g hg => Lib.hid (goods4 0 0 0 0 w g 25 hg true rfl)
  obtain ⟨g, off, hAa, j0⟩ := hA.strR i hi
  subst hAa
  have i1 : (i : Int) < (l.length : Int) := by omega
  have i2 : (0 : Int) ≤ (i : Int) := by omega
  have hsm : ((inn l i).length + [0].length) * 8 ≤ 140737488355328 := by simp; omega
  generalize inn l i = L at *
  generalize l[i] = t at *
  generalize rhash l = b at *
  have hwb : IntKind.u64.wrap ((b : Int) + 1) = (b : Int) + 1 := by rw [IntKind.wrap_u64]; omega
  have eb : ((b + 1 : Nat) : Int) = (b : Int) + 1 := by omega
  simp only [eb] at hJ
  clear eb hg hc hLt hY hN hS hi hti hle hLe hb
  go_enter Try.func5, Try.ntmps5
  go_wp2_with fail
  refine (hL _).out.mono ?_
  rintro e w1 ⟨rfl, hb1⟩
  have hA1 := hA.below hb1
  clear hL hA
  go_wp2_with fail
  refine (hG _ hA1).out.mono ?_
  rintro e w2 ⟨D, d, rfl, hown, hb2⟩
  obtain ⟨hd, hdm⟩ := own_cap1 hown
  have hA2 := hA1.below hb2
  have hD2 := Row.own hown
  have hb02 := below_chain hb1 hb2
  have j2 := kept j0 hb02
  clear hG hA1 hown hb1 hb2
  go_wp2_with fail
  refine (hRb _ hA2).out.mono ?_
  rintro e w3 ⟨rfl, hb3⟩
  have hD3 := hD2.below hb3
  have hb03 := below_chain hb02 hb3
  have j3 := kept j2 hb3
  clear hRb hA2 hD2 hb02 hb3 j2
  go_wp2_with fail
  refine (hI D d _ hd hdm hD3).out.mono ?_
  rintro e w4 ⟨rfl, hb4⟩
  have hD4 := hD3.below hb4
  have hb04 := below_chain hb03 hb4
  have j4 := kept j3 hb4
  clear hI hD3 hb03 hb4 j3
  go_wp2_with fail
  refine (hJ D d _ hd hdm hD4).out.mono ?_
  rintro e w5 ⟨rfl, hb5⟩
  have hD5 := hD4.below hb5
  have hb05 := below_chain hb04 hb5
  have j5 := kept j4 hb5
  clear hJ hD4 hb04 hb5 j4
  go_wp2
  refine wp_region_held_drew (S := fun W => W.cell? ⟨g, off + i, none⟩ = some (.string (S t)) ∧ Below w5.heap.size w5 W) (by kernel_rfl) ⟨j5, bdrew (Below.refl _ _)⟩ (fun hHeld => ?_)
  refine wpAnyH_take (i := 0) (v := ?_) rfl (by kernel_rfl) (by kernel_rfl) (by kernel_rfl) (fun _ _ _ h => h) (Or.inl ⟨by rfl, ?_⟩) (by assumption) ?_
  rotate_left
  · intro wt hSt
    try dsimp only at hSt
    first | (go_simp; done) | (go_simp; with_reducible rfl)
  simp only [Act.put, List.setIfInBounds_toArray, List.set_cons_zero, List.set_cons_succ, List.getElem_toArray, List.getElem_cons_zero]
  refine wpAnyH_take (i := 1) (v := ?_) rfl (by kernel_rfl) (by kernel_rfl) (by kernel_rfl) (fun _ _ _ h => h) (Or.inl ⟨by rfl, ?_⟩) (by assumption) ?_
  rotate_left
  · intro wt hSt
    try dsimp only at hSt
    first | (go_simp; done) | (go_simp; with_reducible rfl)
  simp only [Act.put, List.setIfInBounds_toArray, List.set_cons_zero, List.set_cons_succ, List.getElem_toArray, List.getElem_cons_zero, List.getElem_cons_succ]
  refine wpAnyH_take (i := 2) (v := ?_) rfl (by kernel_rfl) (by kernel_rfl) (by kernel_rfl) (fun _ _ _ h => h) (Or.inl ⟨by rfl, ?_⟩) (by assumption) ?_
  rotate_left
  · intro wt hSt
    try dsimp only at hSt
    first | (go_simp; done) | (go_simp; with_reducible rfl)
  simp only [Act.put, List.setIfInBounds_toArray, List.set_cons_zero, List.set_cons_succ, List.getElem_toArray, List.getElem_cons_zero, List.getElem_cons_succ]
  refine wpAnyH_take (i := 3) (v := ?_) rfl (by kernel_rfl) (by kernel_rfl) (by kernel_rfl) (fun _ _ _ h => h) (Or.inl ⟨by rfl, ?_⟩) (by assumption) ?_
  rotate_left
  · intro wt hSt
    try dsimp only at hSt
    first | (go_simp; done) | (go_simp; with_reducible rfl)
  simp only [Act.put, List.setIfInBounds_toArray, List.set_cons_zero, List.set_cons_succ, List.getElem_toArray, List.getElem_cons_zero, List.getElem_cons_succ]
  refine wpAnyH_take (i := 4) (v := ?_) rfl (by kernel_rfl) (by kernel_rfl) (by kernel_rfl) (fun _ _ _ h => h) (Or.inl ⟨by rfl, ?_⟩) (by assumption) ?_
  rotate_left
  · intro wt hSt
    try dsimp only at hSt
    first | (go_simp; done) | (go_simp; with_reducible rfl)
  simp only [Act.put, List.setIfInBounds_toArray, List.set_cons_zero, List.set_cons_succ, List.getElem_toArray, List.getElem_cons_zero, List.getElem_cons_succ]
  refine wpAnyH_take (i := 5) (v := ?_) rfl (by kernel_rfl) (by kernel_rfl) (by kernel_rfl) (fun _ _ _ h => h) (Or.inl ⟨by rfl, ?_⟩) (by assumption) ?_
  rotate_left
  · intro wt hSt
    try dsimp only at hSt
    first | (go_simp; done) | (go_simp; with_reducible rfl)
  simp only [Act.put, List.setIfInBounds_toArray, List.set_cons_zero, List.set_cons_succ, List.getElem_toArray, List.getElem_cons_zero, List.getElem_cons_succ]
  refine wpAnyH_take (i := 6) (v := ?_) rfl (by kernel_rfl) (by kernel_rfl) (by kernel_rfl) (fun _ _ _ h => h) (Or.inl ⟨by rfl, ?_⟩) (by assumption) ?_
  rotate_left
  · intro wt hSt
    try dsimp only at hSt
    first | (go_simp; done) | (go_simp; with_reducible rfl)
  simp only [Act.put, List.setIfInBounds_toArray, List.set_cons_zero, List.set_cons_succ, List.getElem_toArray, List.getElem_cons_zero, List.getElem_cons_succ]
  refine wpAnyH_take (i := 7) (v := ?_) rfl (by kernel_rfl) (by kernel_rfl) (by kernel_rfl) (fun _ _ _ h => h) (Or.inl ⟨by rfl, ?_⟩) (by assumption) ?_
  rotate_left
  · intro wt hSt
    try dsimp only at hSt
    first | (go_simp; done) | (go_simp; with_reducible rfl)
  simp only [Act.put, List.setIfInBounds_toArray, List.set_cons_zero, List.set_cons_succ, List.getElem_toArray, List.getElem_cons_zero, List.getElem_cons_succ]
  refine wpAnyH_take (i := 8) (v := ?_) rfl (by kernel_rfl) (by kernel_rfl) (by kernel_rfl) (fun _ _ _ h => h) (Or.inl ⟨by rfl, ?_⟩) (by assumption) ?_
  rotate_left
  · intro wt hSt
    try dsimp only at hSt
    first | (go_simp; done) | (go_simp; with_reducible rfl)
  simp only [Act.put, List.setIfInBounds_toArray, List.set_cons_zero, List.set_cons_succ, List.getElem_toArray, List.getElem_cons_zero, List.getElem_cons_succ]
  refine wpAnyH_ready (rs := [9, 10]) (by kernel_rfl) (by simp) ?_
  refine AllReadyH.cons rfl (fun K hK => ?_) (AllReadyH.cons rfl (fun K hK => ?_) (AllReadyH.nil))
  · skip
    go_simp
    go_at_call 21
    refine (hCl D d _ (hD5.drewN 1)).out.mono ?_
    rintro e w6 ⟨D6, d6, rfl, hown6, hb6'⟩
    have hb6 : Below w5.heap.size w5 w6 := below_chain (bdrew (Below.refl _ _)) hb6'
    have hownA : w6.ownsRow w5.heap.size 23 1 (.slice D6 L.length d6) L.length (mcells L) := own_base1 hown6 (by simp)
    go_wp2_with fail
    refine hK.out _ _ ⟨kept j5 hb6, hb6⟩ (fun hHeld => ?_)
    clear hK K
    refine wpAnyH_ready (rs := [10]) (by kernel_rfl) (by simp) ?_
    refine AllReadyH.cons rfl (fun K hK => ?_) (AllReadyH.nil)
    go_simp
    have hbB : Below w5.heap.size w5 (w6.alloc (.cells #[.int .u64 0] 23)) := balloc hb6 _
    have hownB := hownA.alloc (.cells #[.int .u64 0] 23)
    refine hK.out _ _ ⟨kept j5 hbB, hbB⟩ (fun hHeld => ?_)
    clear hK K
    refine wpAnyH_ready (rs := [11]) (by kernel_rfl) (by simp) ?_
    refine AllReadyH.cons rfl (fun K hK => ?_) (AllReadyH.nil)
    refine step_app_marks rfl (.tmp 70) (.tmp 71) rfl w5.heap.size _ L ?_ hownB (some ⟨w6.heap.size, 0, none⟩) 1 [0] ?_ (mark_row w6 0 _) hsm ?_ ?_
    · first | rfl | simp [Act.eval, Act.put]
    · first | rfl | simp [Act.eval, Act.put]
    · exact hbB.size
    intro v7 w7 hown7 hgrow7
    have hb7 : Below w5.heap.size w5 w7 := hbB.grown hgrow7 hbB.size (fun j hj => (hownB.lt j hj).1)
    obtain ⟨D7, d7, rfl⟩ := own_shape hown7
    obtain ⟨hd7, hdm7⟩ := own_cap1 hown7
    rw [List.length_append, List.length_singleton] at hd7 hown7
    refine hK.out _ _ ⟨kept j5 hb7, hb7⟩ (fun hHeld => ?_)
    clear hK K
    try simp only [Act.put, List.setIfInBounds_toArray, List.set_cons_zero, List.set_cons_succ, List.getElem_toArray, List.getElem_cons_zero, List.getElem_cons_succ]
    refine wpAnyH_ready (rs := [12]) (by kernel_rfl) (by simp) ?_
    refine AllReadyH.cons rfl (fun K hK => ?_) (AllReadyH.nil)
    go_simp
    go_at_call 10
    refine (hLong D7 d7 _ hd7 hdm7 (Row.own hown7)).out.mono ?_
    rintro e w8 ⟨rfl, hb8'⟩
    have hb8 := below_chain hb7 hb8'
    go_wp2_with fail
    refine hK.out _ _ ⟨kept j5 hb8, hb8⟩ (fun hHeld => ?_)
    clear hK K
    refine wpAnyH_take (i := 13) (v := ?_) rfl (by kernel_rfl) (by kernel_rfl) (by kernel_rfl) (fun _ _ _ h => h) (Or.inl ⟨by rfl, ?_⟩) (by assumption) ?_
    rotate_left
    · intro wt hSt
      try dsimp only at hSt
      first | (go_simp; done) | (go_simp; with_reducible rfl)
    simp only [Act.put, List.setIfInBounds_toArray, List.set_cons_zero, List.set_cons_succ, List.getElem_toArray, List.getElem_cons_zero, List.getElem_cons_succ]
    refine wpAnyH_take (i := 14) (v := ?_) rfl (by kernel_rfl) (by kernel_rfl) (by kernel_rfl) (fun _ _ _ h => h) (Or.inl ⟨by rfl, ?_⟩) (by assumption) ?_
    rotate_left
    · intro wt hSt
      try dsimp only at hSt
      first | (go_simp; done) | (go_simp; with_reducible rfl)
    simp only [Act.put, List.setIfInBounds_toArray, List.set_cons_zero, List.set_cons_succ, List.getElem_toArray, List.getElem_cons_zero, List.getElem_cons_succ]
    refine wpAnyH_take (i := 15) (v := ?_) rfl (by kernel_rfl) (by kernel_rfl) (by kernel_rfl) (fun _ _ _ h => h) (Or.inl ⟨by rfl, ?_⟩) (by assumption) ?_
    rotate_left
    · intro wt hSt
      try dsimp only at hSt
      first | (go_simp; done) | (go_simp; with_reducible rfl)
    simp only [Act.put, List.setIfInBounds_toArray, List.set_cons_zero, List.set_cons_succ, List.getElem_toArray, List.getElem_cons_zero, List.getElem_cons_succ]
    refine wpAnyH_take (i := 16) (v := ?_) rfl (by kernel_rfl) (by kernel_rfl) (by kernel_rfl) (fun _ _ _ h => h) (Or.inl ⟨by rfl, ?_⟩) (by assumption) ?_
    rotate_left
    · intro wt hSt
      try dsimp only at hSt
      first | (go_simp; done) | (go_simp; with_reducible rfl)
    simp only [Act.put, List.setIfInBounds_toArray, List.set_cons_zero, List.set_cons_succ, List.getElem_toArray, List.getElem_cons_zero, List.getElem_cons_succ]
    refine wpAnyH_take (i := 17) (v := ?_) rfl (by kernel_rfl) (by kernel_rfl) (by kernel_rfl) (fun _ _ _ h => h) (Or.inl ⟨by rfl, ?_⟩) (by assumption) ?_
    rotate_left
    · intro wt hSt
      try dsimp only at hSt
      first | (go_simp; done) | (go_simp; with_reducible rfl)
    simp only [Act.put, List.setIfInBounds_toArray, List.set_cons_zero, List.set_cons_succ, List.getElem_toArray, List.getElem_cons_zero, List.getElem_cons_succ]
    refine wpAnyH_done (by kernel_rfl) ?_ _
    have hb08 := below_chain hb05 hb8
    go_wp2_with fail
    refine (h4 _ _ rfl).out.mono ?_
    rintro e w9 ⟨rfl, hw⟩
    subst hw
    go_wp2
    go_ret
    exact ⟨rfl, hb08.alloc hb08.size _⟩
  · skip
    go_simp
    have hbA : Below w5.heap.size w5 (w5.drew.alloc (.cells #[.int .u64 0] 23)) := balloc (bdrew (Below.refl _ _)) _
    refine hK.out _ _ ⟨kept j5 hbA, hbA⟩ (fun hHeld => ?_)
    clear hK K
    refine wpAnyH_ready (rs := [9]) (by kernel_rfl) (by simp) ?_
    refine AllReadyH.cons rfl (fun K hK => ?_) (AllReadyH.nil)
    go_simp
    go_at_call 21
    refine (hCl D d _ (hD5.below hbA)).out.mono ?_
    rintro e w6 ⟨D6, d6, rfl, hown6, hb6'⟩
    have hb6 : Below w5.heap.size w5 w6 := below_chain hbA hb6'
    have hownA : w6.ownsRow w5.heap.size 23 1 (.slice D6 L.length d6) L.length (mcells L) := own_base1 hown6 (by simp)
    go_wp2_with fail
    refine hK.out _ _ ⟨kept j5 hb6, hb6⟩ (fun hHeld => ?_)
    clear hK K
    refine wpAnyH_ready (rs := [11]) (by kernel_rfl) (by simp) ?_
    refine AllReadyH.cons rfl (fun K hK => ?_) (AllReadyH.nil)
    refine step_app_marks rfl (.tmp 70) (.tmp 71) rfl w5.heap.size _ L ?_ hownA (some ⟨w5.heap.size, 0, none⟩) 1 [0] ?_ ((mark_row w5.drew 0 _).below hb6') hsm ?_ ?_
    · first | rfl | simp [Act.eval, Act.put]
    · first | rfl | simp [Act.eval, Act.put]
    · exact hb6.size
    intro v7 w7 hown7 hgrow7
    have hb7 : Below w5.heap.size w5 w7 := hb6.grown hgrow7 hb6.size (fun j hj => (hownA.lt j hj).1)
    obtain ⟨D7, d7, rfl⟩ := own_shape hown7
    obtain ⟨hd7, hdm7⟩ := own_cap1 hown7
    rw [List.length_append, List.length_singleton] at hd7 hown7
    refine hK.out _ _ ⟨kept j5 hb7, hb7⟩ (fun hHeld => ?_)
    clear hK K
    try simp only [Act.put, List.setIfInBounds_toArray, List.set_cons_zero, List.set_cons_succ, List.getElem_toArray, List.getElem_cons_zero, List.getElem_cons_succ]
    refine wpAnyH_ready (rs := [12]) (by kernel_rfl) (by simp) ?_
    refine AllReadyH.cons rfl (fun K hK => ?_) (AllReadyH.nil)
    go_simp
    go_at_call 10
    refine (hLong D7 d7 _ hd7 hdm7 (Row.own hown7)).out.mono ?_
    rintro e w8 ⟨rfl, hb8'⟩
    have hb8 := below_chain hb7 hb8'
    go_wp2_with fail
    refine hK.out _ _ ⟨kept j5 hb8, hb8⟩ (fun hHeld => ?_)
    clear hK K
    refine wpAnyH_take (i := 13) (v := ?_) rfl (by kernel_rfl) (by kernel_rfl) (by kernel_rfl) (fun _ _ _ h => h) (Or.inl ⟨by rfl, ?_⟩) (by assumption) ?_
    rotate_left
    · intro wt hSt
      try dsimp only at hSt
      first | (go_simp; done) | (go_simp; with_reducible rfl)
    simp only [Act.put, List.setIfInBounds_toArray, List.set_cons_zero, List.set_cons_succ, List.getElem_toArray, List.getElem_cons_zero, List.getElem_cons_succ]
    refine wpAnyH_take (i := 14) (v := ?_) rfl (by kernel_rfl) (by kernel_rfl) (by kernel_rfl) (fun _ _ _ h => h) (Or.inl ⟨by rfl, ?_⟩) (by assumption) ?_
    rotate_left
    · intro wt hSt
      try dsimp only at hSt
      first | (go_simp; done) | (go_simp; with_reducible rfl)
    simp only [Act.put, List.setIfInBounds_toArray, List.set_cons_zero, List.set_cons_succ, List.getElem_toArray, List.getElem_cons_zero, List.getElem_cons_succ]
    refine wpAnyH_take (i := 15) (v := ?_) rfl (by kernel_rfl) (by kernel_rfl) (by kernel_rfl) (fun _ _ _ h => h) (Or.inl ⟨by rfl, ?_⟩) (by assumption) ?_
    rotate_left
    · intro wt hSt
      try dsimp only at hSt
      first | (go_simp; done) | (go_simp; with_reducible rfl)
    simp only [Act.put, List.setIfInBounds_toArray, List.set_cons_zero, List.set_cons_succ, List.getElem_toArray, List.getElem_cons_zero, List.getElem_cons_succ]
    refine wpAnyH_take (i := 16) (v := ?_) rfl (by kernel_rfl) (by kernel_rfl) (by kernel_rfl) (fun _ _ _ h => h) (Or.inl ⟨by rfl, ?_⟩) (by assumption) ?_
    rotate_left
    · intro wt hSt
      try dsimp only at hSt
      first | (go_simp; done) | (go_simp; with_reducible rfl)
    simp only [Act.put, List.setIfInBounds_toArray, List.set_cons_zero, List.set_cons_succ, List.getElem_toArray, List.getElem_cons_zero, List.getElem_cons_succ]
    refine wpAnyH_take (i := 17) (v := ?_) rfl (by kernel_rfl) (by kernel_rfl) (by kernel_rfl) (fun _ _ _ h => h) (Or.inl ⟨by rfl, ?_⟩) (by assumption) ?_
    rotate_left
    · intro wt hSt
      try dsimp only at hSt
      first | (go_simp; done) | (go_simp; with_reducible rfl)
    simp only [Act.put, List.setIfInBounds_toArray, List.set_cons_zero, List.set_cons_succ, List.getElem_toArray, List.getElem_cons_zero, List.getElem_cons_succ]
    refine wpAnyH_done (by kernel_rfl) ?_ _
    have hb08 := below_chain hb05 hb8
    go_wp2_with fail
    refine (h4 _ _ rfl).out.mono ?_
    rintro e w9 ⟨rfl, hw⟩
    subst hw
    go_wp2
    go_ret
    exact ⟨rfl, hb08.alloc hb08.size _⟩

theorem rollIns_walk (A : Option Addr) (c : Nat) (l : List Bytes) (i : Int) (w : World) (hm : l.length ≤ maxLen) (hl : ∀ s ∈ l, s.length ≤ maxLen) (hc : l.length ≤ c) (hA : Row w A (scells l)) :
    Calls Try.prog 5 #[.slice A l.length c, .int .i64 i] w fun e w' => e = .returned (.bool true) ∧ Below w.heap.size w w' := by
  by_cases h0 : inErr l i = 0
  · obtain ⟨hg, h1, h2⟩ := (inErr_ok l i).1 h0
    obtain ⟨i, rfl⟩ : ∃ j : Nat, i = (j : Int) := ⟨i.toNat, by omega⟩
    exact rollIns_yes A c l i w hg hc (by omega) hA
  · exact rollIns_no A c l i w hm hl hA h0

set_option maxRecDepth 100000 in
theorem rollIns_lifted (os : Os) (started : os.Started) (H : Type) (enc : TypeId × Value → H) :
    ReturnsInHanded {} Try.checked os 5 .any (Rows.rollInsSpec.pre6 enc Try.prog Try.f5 Rows.rollInsRow.domain false) (Rows.rollInsSpec.post enc Try.prog Try.f5 false true false false) := by
  refine returnsInHanded_of_change (C := Try.checked) own started (by kernel_rfl) Try.func5
    (ChangeSpec.witness6 (enc := enc) (C := Try.checked) false ⟨#[], #[.slice none 0 0, .int .i64 0], []⟩ 8 (by kernel_rfl) (by kernel_rfl) (by kernel_rfl) (by kernel_rfl)) ?_
  intro W base args ds gs before hval0 hW hcnd _
  have hval : ∀ (j : Nat) t v, Try.f5.params[j]? = some t → args[j]? = some v → Value.okWide Try.prog W .any base t v := hval0
  have hW' := hW
  obtain ⟨p, q, hA0, hV, rfl, hfz, hnd⟩ := hW
  have hA : DataW.TrodAll enc Try.prog W 0 (fun _ => true) true Try.f5.params.toList args.toList ds p := hA0
  rw [Try.params5] at hA hval
  obtain ⟨v0, vs0, d0, ds0, p0, q0, hargs, rfl, rfl, h0, r0⟩ := trodAll_cons hA
  obtain ⟨v1, vs1, d1, ds1, p1, q1, rfl, rfl, rfl, h1, r1⟩ := trodAll_cons r0
  obtain ⟨rfl, rfl, rfl⟩ := trodAll_nil r1
  obtain rfl : args = #[v0, v1] := by cases args; simp_all
  obtain ⟨rfl, rfl⟩ := trodVars_none hV
  obtain ⟨A0, c0, s0, rfl, hm0, hr0, hs0, hc0⟩ := arg_strsC (hval 0 22 v0 rfl rfl) h0
  obtain ⟨x1, rfl, hx1, hy1⟩ := arg_i64 (hval 1 3 v1 rfl rfl) h1
  refine (rollIns_walk A0 c0 s0 x1 _ hm0 hs0 hc0 hr0).mono fun e W' ⟨he, hb⟩ => ?_
  subst he
  exact ⟨_, rfl, post_law laidOut (by decide +kernel) rfl Try.underlying4 (by kernel_rfl) hW' rfl hb⟩

/-- The statement. -/
theorem rollIns_said : Rows.RollInsSaid :=
  OpenClaim.holds_of_wide 5 Try.f5 rfl rfl rfl rfl rfl rfl rfl ⟨rfl, rfl, rfl, rfl, rfl⟩ rfl rfl rfl rfl rfl (by kernel_rfl) Try.func5 (by kernel_rfl)
    (of_decide_eq_true (by kernel_rfl)) (by unfold Func.isWrapper; first | (rw [if_pos (by decide +kernel)]; kernel_rfl) | (rw [if_neg (by decide +kernel)]; exact ⟨rfl, rfl⟩))
    (fun os started H enc _ => rollIns_lifted os started H enc)
#print axioms rollIns_said
end Go.Proofs.Ytlobpjpkldmnaaa
