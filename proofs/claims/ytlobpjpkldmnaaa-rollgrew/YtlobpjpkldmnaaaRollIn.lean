/- package roll: beside returns the hashes beside the way to a string, In the inclusion proof. -/
import Derived.Test.YtlobpjpkldmnaaaRollHash
import Derived.Test.YtlobpjpkldmnaaaRollRow
import Derived.Deep.RegionLaw
namespace Go.Proofs.Ytlobpjpkldmnaaa
set_option maxRecDepth 100000
open Go.RowKit

/-- Hashes of the call's own. -/
def RollGives (L : List Nat) (w : World) (e : Ending) (w' : World) : Prop := ∃ A c, e = .returned (.slice A L.length c) ∧ w'.ownsRow w.heap.size 23 1 (.slice A L.length c) L.length (mcells L) ∧ Below w.heap.size w w'
/-- .. and no error. -/
def RollGivesOk (L : List Nat) (w : World) (e : Ending) (w' : World) : Prop := ∃ A c, e = .returned (.tuple #[.slice A L.length c, .int .i64 0]) ∧ w'.ownsRow w.heap.size 23 1 (.slice A L.length c) L.length (mcells L) ∧ Below w.heap.size w w'

def InnAt (f : Nat) : Prop := ∀ (l : List Bytes) (A : Option Addr) (c n i : Nat) (w : World), l.length = n → n ≤ f → 1 ≤ n → n ≤ 40 → n ≤ c → (∀ s ∈ l, s.length ≤ 40) → i < n → Row w A (scells l) →
  Calls Try.prog 27 #[.slice A n c, .int .i64 (i : Int)] w (RollGives (inn l i) w)

set_option maxHeartbeats 400000 in
theorem beside_one (l : List Bytes) (A : Option Addr) (c i : Nat) (w : World) (hl : l.length = 1) :
    Calls Try.prog 27 #[.slice A 1 c, .int .i64 (i : Int)] w (RollGives (inn l i) w) := by
  rw [inn_none l i (by omega)]
  clear hl
  go_enter Try.func27, Try.ntmps27
  go_wp2
  go_ret
  exact ⟨none, 0, rfl, World.ownsRow_nil _ _ _ _, Below.refl _ _⟩

set_option maxHeartbeats 4000000 in
theorem beside_left (f : Nat) (ih : InnAt f) (l : List Bytes) (A : Option Addr) (c n i : Nat) (w : World) (hn : l.length = n) (hf : n ≤ f + 1) (h2 : 2 ≤ n) (h40 : n ≤ 40) (hc : n ≤ c) (hl : ∀ s ∈ l, s.length ≤ 40) (hin : i < n) (hA : Row w A (scells l))
    (k : Nat) (hk : hlf n = k) (hik : i < k) : Calls Try.prog 27 #[.slice A n c, .int .i64 (i : Int)] w (RollGives (inn l i) w) := by
  have hk1 := hlf_pos n
  have hk2 := hlf_lt h2
  rw [hk] at hk1 hk2
  rw [inn_left l i k (by omega) (by rw [hn, hk]) hik]
  have hS := fun w => Lib.hid (rollSplit n k w h2 h40 hk)
  have ih1 := fun (W : World) hA => Lib.hid (ih (l.take k) A c k i W (by rw [List.length_take]; omega) (by omega) hk1 (by omega) (by omega) (fun s hs => hl s (List.mem_of_mem_take hs)) hik hA)
  have ih2 := fun (W : World) hA => Lib.hid (rollHash (l.drop k) (A.map (·.add k)) (c - k) (n - k) W (by rw [List.length_drop]; omega) (by omega) (by omega) (by omega) (fun s hs => hl s (List.mem_of_mem_drop hs)) hA _ rfl)
  have hll : (inn (l.take k) i).length ≤ 40 := Nat.le_trans (inn_le _ _) (by simp; omega)
  have hR1 : ∀ W : World, Below w.heap.size w W → Hid (Row W A (scells (l.take k))) := fun W h => (hA.below h).takeR k
  have hR2 : ∀ W : World, Below w.heap.size w W → Hid (Row W (A.map (·.add k)) (scells (l.drop k))) := fun W h => (hA.below h).dropR k
  have e1 : ((inn (l.take k) i) ++ [rhash (l.drop k)]).length = (inn (l.take k) i).length + 1 := by simp
  obtain ⟨L, hL⟩ : ∃ L, (inn (l.take k) i) = L := ⟨_, rfl⟩
  rw [hL] at ih1 hll ⊢
  generalize rhash (l.drop k) = b at *
  obtain ⟨m, rfl⟩ : ∃ m, n = k + (m + 1) := ⟨n - k - 1, by omega⟩
  obtain ⟨d, rfl⟩ : ∃ d, c = k + (d + 1) := ⟨c - k - 1, by omega⟩
  rw [show k + (d + 1) - k = d + 1 by omega, show k + (m + 1) - k = m + 1 by omega] at ih2
  have c2 : (i : Int) < (k : Int) := by omega
  have hmd : m ≤ d := by omega
  have c1 : (((k + (m + 1) : Nat) : Int) == 1) = false := beq_eq_false_iff_ne.2 (by omega)
  have hsm : (L.length + [b].length) * 8 ≤ 140737488355328 := by simp; omega
  have i1 : (k : Int) ≤ (k : Int) + ((d : Int) + 1) := by omega
  have i2 : (k : Int) ≤ (k : Int) + ((m : Int) + 1) := by omega
  have i0 : (0 : Int) ≤ (k : Int) := by omega
  have hb0 : Below w.heap.size w w.drew := bdrew (Below.refl _ _)
  clear hn hf h2 h40 hc hl hA hk ih hL e1
  go_enter Try.func27, Try.ntmps27
  go_wp2_with fail
  refine (hS _).out.mono ?_
  rintro e w1 ⟨rfl, hw⟩
  subst hw
  clear hS
  go_wp2
  go_region_law (first
    | (refine step_app_marks rfl (.tmp 19) (.tmp 24) rfl w.heap.size _ L ?_ hown' (some ⟨w5.heap.size, 0, none⟩) 1 [b] ?_ (mark_row w5 b _) hsm ?_ ?_; (first | rfl | simp [Act.eval, Act.put]); (first | rfl | simp [Act.eval, Act.put]); (simp; omega); intro v6 w6 hown6 hgrow6; have hb6 : Below w.heap.size w w6 := (hb5'.alloc hb5'.size _).grown hgrow6 (by simp; omega) (fun j hj => (hown'.lt j hj).1))
    | (go_simp; go_at_call 27; refine (ih1 _ (hR1 _ hb0).out).out.mono ?_; rintro e w4 ⟨D, d4, rfl, hown4, hb4⟩; have hb4' : Below w.heap.size w w4 := below_chain hb0 hb4)
    | (go_simp; go_at_call 26; refine (ih2 _ (hR2 _ hb4').out).out.mono ?_; rintro e w5 ⟨rfl, hb5⟩; have hb5' : Below w.heap.size w w5 := below_chain hb4' hb5; have hsz5 := hb5'.size; have hown' := (own_below (own_below hown4 (Below.refl _ _)) hb5).alloc (.cells #[.int .u64 (b : Int)] 23)))
  all_goals
    go_wp2_with fail
    obtain ⟨D6, d6, rfl⟩ := own_shape hown6
    go_ret
    exact ⟨D6, d6, rfl, hown6, hb6⟩

set_option maxHeartbeats 4000000 in
theorem beside_right (f : Nat) (ih : InnAt f) (l : List Bytes) (A : Option Addr) (c n i : Nat) (w : World) (hn : l.length = n) (hf : n ≤ f + 1) (h2 : 2 ≤ n) (h40 : n ≤ 40) (hc : n ≤ c) (hl : ∀ s ∈ l, s.length ≤ 40) (hin : i < n) (hA : Row w A (scells l))
    (k : Nat) (hk : hlf n = k) (hik : k ≤ i) : Calls Try.prog 27 #[.slice A n c, .int .i64 (i : Int)] w (RollGives (inn l i) w) := by
  have hk1 := hlf_pos n
  have hk2 := hlf_lt h2
  rw [hk] at hk1 hk2
  rw [inn_right l i k (by omega) (by rw [hn, hk]) hik]
  have hS := fun w => Lib.hid (rollSplit n k w h2 h40 hk)
  have ih1 := fun (W : World) hA => Lib.hid (ih (l.drop k) (A.map (·.add k)) (c - k) (n - k) (i - k) W (by rw [List.length_drop]; omega) (by omega) (by omega) (by omega) (by omega) (fun s hs => hl s (List.mem_of_mem_drop hs)) (by omega) hA)
  have ih2 := fun (W : World) hA => Lib.hid (rollHash (l.take k) A c k W (by rw [List.length_take]; omega) hk1 (by omega) (by omega) (fun s hs => hl s (List.mem_of_mem_take hs)) hA _ rfl)
  have hll : (inn (l.drop k) (i - k)).length ≤ 40 := Nat.le_trans (inn_le _ _) (by simp; omega)
  have hR1 : ∀ W : World, Below w.heap.size w W → Hid (Row W A (scells (l.take k))) := fun W h => (hA.below h).takeR k
  have hR2 : ∀ W : World, Below w.heap.size w W → Hid (Row W (A.map (·.add k)) (scells (l.drop k))) := fun W h => (hA.below h).dropR k
  have e1 : ((inn (l.drop k) (i - k)) ++ [rhash (l.take k)]).length = (inn (l.drop k) (i - k)).length + 1 := by simp
  obtain ⟨L, hL⟩ : ∃ L, (inn (l.drop k) (i - k)) = L := ⟨_, rfl⟩
  rw [hL] at ih1 hll ⊢
  generalize rhash (l.take k) = b at *
  obtain ⟨m, rfl⟩ : ∃ m, n = k + (m + 1) := ⟨n - k - 1, by omega⟩
  obtain ⟨d, rfl⟩ : ∃ d, c = k + (d + 1) := ⟨c - k - 1, by omega⟩
  rw [show k + (d + 1) - k = d + 1 by omega, show k + (m + 1) - k = m + 1 by omega] at ih1
  obtain ⟨j, rfl⟩ : ∃ j, i = k + j := ⟨i - k, by omega⟩
  rw [Nat.add_sub_cancel_left] at ih1
  have c2 : decide ((k : Int) + (j : Int) < (k : Int)) = false := decide_eq_false (by omega)
  have hmd : m ≤ d := by omega
  have c1 : (((k + (m + 1) : Nat) : Int) == 1) = false := beq_eq_false_iff_ne.2 (by omega)
  have hsm : (L.length + [b].length) * 8 ≤ 140737488355328 := by simp; omega
  have i1 : (k : Int) ≤ (k : Int) + ((d : Int) + 1) := by omega
  have i2 : (k : Int) ≤ (k : Int) + ((m : Int) + 1) := by omega
  have i0 : (0 : Int) ≤ (k : Int) := by omega
  have hwr : IntKind.i64.wrap ((k : Int) + (j : Int) - (k : Int)) = (j : Int) := by rw [IntKind.wrap_i64]; omega
  have hb0 : Below w.heap.size w w.drew := bdrew (Below.refl _ _)
  clear hn hf h2 h40 hc hl hA hk ih hL e1
  go_enter Try.func27, Try.ntmps27
  go_wp2_with fail
  refine (hS _).out.mono ?_
  rintro e w1 ⟨rfl, hw⟩
  subst hw
  clear hS
  go_wp2
  go_region_law (first
    | (refine step_app_marks rfl (.tmp 32) (.tmp 37) rfl w.heap.size _ L ?_ hown' (some ⟨w5.heap.size, 0, none⟩) 1 [b] ?_ (mark_row w5 b _) hsm ?_ ?_; (first | rfl | simp [Act.eval, Act.put]); (first | rfl | simp [Act.eval, Act.put]); (simp; omega); intro v6 w6 hown6 hgrow6; have hb6 : Below w.heap.size w w6 := (hb5'.alloc hb5'.size _).grown hgrow6 (by simp; omega) (fun j hj => (hown'.lt j hj).1))
    | (go_simp; go_at_call 27; refine (ih1 _ (hR2 _ hb0).out).out.mono ?_; rintro e w4 ⟨D, d4, rfl, hown4, hb4⟩; have hb4' : Below w.heap.size w w4 := below_chain hb0 hb4)
    | (go_simp; go_at_call 26; refine (ih2 _ (hR1 _ hb4').out).out.mono ?_; rintro e w5 ⟨rfl, hb5⟩; have hb5' : Below w.heap.size w w5 := below_chain hb4' hb5; have hsz5 := hb5'.size; have hown' := (own_below (own_below hown4 (Below.refl _ _)) hb5).alloc (.cells #[.int .u64 (b : Int)] 23)))
  all_goals
    go_wp2_with fail
    obtain ⟨D6, d6, rfl⟩ := own_shape hown6
    go_ret
    exact ⟨D6, d6, rfl, hown6, hb6⟩

theorem beside_at (f : Nat) : InnAt f := by
  induction f with
  | zero => intro l A c n i w hn hf h1; omega
  | succ f ih =>
    intro l A c n i w hn hf h1 h40 hc hl hin hA
    rcases Nat.lt_or_ge 1 n with h2 | h2
    · rcases Nat.lt_or_ge i (hlf n) with h | h
      · exact beside_left f ih l A c n i w hn hf h2 h40 hc hl hin hA _ rfl h
      · exact beside_right f ih l A c n i w hn hf h2 h40 hc hl hin hA _ rfl h
    · obtain rfl : n = 1 := by omega
      exact beside_one l A c i w hn

/-- The error of In. -/
def inErr (l : List Bytes) (i : Int) : Int := if rfault l ≠ 0 then rfault l else if i < 0 ∨ (l.length : Int) ≤ i then 4 else 0
theorem inErr_ok (l : List Bytes) (i : Int) : inErr l i = 0 ↔ RGood l ∧ 0 ≤ i ∧ i < l.length := by
  unfold inErr
  rw [← rfault_ok]
  by_cases h : rfault l = 0
  · rw [if_neg (by simp [h])]
    split <;> omega
  · rw [if_pos h]
    exact ⟨fun e => absurd e h, fun e => absurd e.1 h⟩

set_option maxHeartbeats 1000000 in
theorem rollIn_no (A : Option Addr) (c : Nat) (l : List Bytes) (i : Int) (w : World) (hm : l.length ≤ maxLen) (hl : ∀ s ∈ l, s.length ≤ maxLen) (hA : Row w A (scells l)) (r : Int) (hr : inErr l i = r) (h0 : r ≠ 0) :
    Calls Try.prog 9 #[.slice A l.length c, .int .i64 i] w fun e w' => e = .returned (.tuple #[.slice none 0 0, .int .i64 r]) ∧ w = w' := by
  have hC := fun w hA => Lib.hid (rollCheck A c l w hm hl hA _ rfl)
  unfold inErr at hr
  unfold maxLen at hm
  by_cases hf : rfault l = 0
  · rw [if_neg (by simp [hf])] at hr
    rw [hf] at hC
    clear hf hl
    by_cases h1 : i < 0
    · rw [if_pos (.inl h1)] at hr
      subst hr
      clear h0
      go_enter Try.func9, Try.ntmps9
      go_wp2_with fail
      refine (hC _ hA).out.mono ?_
      rintro e w1 ⟨rfl, rfl⟩
      go_wp2
      go_ret2
      exact ⟨rfl, rfl⟩
    · by_cases h2 : (l.length : Int) ≤ i
      · rw [if_pos (.inr h2)] at hr
        subst hr
        clear h0
        have c1 : decide (i < 0) = false := decide_eq_false h1
        clear h1
        go_enter Try.func9, Try.ntmps9
        go_wp2_with fail
        refine (hC _ hA).out.mono ?_
        rintro e w1 ⟨rfl, rfl⟩
        go_wp2
        go_ret2
        exact ⟨rfl, rfl⟩
      · rw [if_neg (by omega)] at hr
        exact absurd hr.symm h0
  · rw [if_pos hf] at hr
    rw [hr] at hC
    clear hf hl hr
    have c1 : (r == 0) = false := beq_eq_false_iff_ne.2 h0
    go_enter Try.func9, Try.ntmps9
    go_wp2_with fail
    refine (hC _ hA).out.mono ?_
    rintro e w1 ⟨rfl, rfl⟩
    go_wp2
    go_ret2
    exact ⟨rfl, rfl⟩

set_option maxHeartbeats 1000000 in
theorem rollIn_yes (A : Option Addr) (c : Nat) (l : List Bytes) (i : Nat) (w : World) (hg : RGood l) (hc : l.length ≤ c) (hi : i < l.length) (hA : Row w A (scells l)) :
    Calls Try.prog 9 #[.slice A l.length c, .int .i64 (i : Int)] w (RollGivesOk (inn l i) w) := by
  have hC := fun w hA => Lib.hid (rollCheck A c l w (by have := hg.le; unfold maxLen; omega) (fun s hs => by have := hg.each s hs; unfold maxLen; omega) hA 0 ((rfault_ok l).2 hg))
  have hB := fun w hA => Lib.hid (beside_at l.length l A c l.length i w rfl (Nat.le_refl _) hg.pos hg.le hc hg.each hi hA)
  have h40 := hg.le
  have c1 : decide ((i : Int) < 0) = false := decide_eq_false (by omega)
  have c2 : decide ((l.length : Int) ≤ (i : Int)) = false := decide_eq_false (by omega)
  clear hg hc
  generalize inn l i = L at *
  go_enter Try.func9, Try.ntmps9
  go_wp2_with fail
  refine (hC _ hA).out.mono ?_
  rintro e w1 ⟨rfl, hw⟩
  subst hw
  clear hC
  go_wp2_with fail
  refine (hB _ hA).out.mono ?_
  rintro e w2 ⟨D, d, rfl, hown, hb2⟩
  go_wp2
  go_ret2
  exact ⟨D, d, rfl, hown, hb2⟩
end Go.Proofs.Ytlobpjpkldmnaaa
