/- package roll: grown returns the consistency proof of a stretch, Grew that of a log. -/
import Derived.Test.YtlobpjpkldmnaaaRollIn
namespace Go.Proofs.Ytlobpjpkldmnaaa
set_option maxRecDepth 100000
open Go.RowKit

def GrwAt (f : Nat) : Prop := ∀ (l : List Bytes) (A : Option Addr) (c n m : Nat) (wh : Bool) (w : World), l.length = n → n ≤ f → 1 ≤ m → n ≤ 40 → n ≤ c → (∀ s ∈ l, s.length ≤ 40) → m ≤ n → Row w A (scells l) →
  Calls Try.prog 33 #[.slice A n c, .int .i64 (m : Int), .bool wh] w (RollGives (grw l m wh) w)

set_option maxHeartbeats 400000 in
theorem grown_whole (l : List Bytes) (A : Option Addr) (c n : Nat) (w : World) (hl : l.length = n) :
    Calls Try.prog 33 #[.slice A n c, .int .i64 (n : Int), .bool true] w (RollGives (grw l n true) w) := by
  rw [grw_all l n (by omega) true, if_pos rfl]
  clear hl
  go_enter Try.func33, Try.ntmps33
  go_wp2
  go_ret
  exact ⟨none, 0, rfl, World.ownsRow_nil _ _ _ _, Below.refl _ _⟩
set_option maxHeartbeats 400000 in
theorem grown_range (l : List Bytes) (A : Option Addr) (c n : Nat) (w : World) (hn : l.length = n) (h1 : 1 ≤ n) (h40 : n ≤ 40) (hc : n ≤ c) (hl : ∀ s ∈ l, s.length ≤ 40) (hA : Row w A (scells l)) :
    Calls Try.prog 33 #[.slice A n c, .int .i64 (n : Int), .bool false] w (RollGives (grw l n false) w) := by
  rw [grw_all l n (by omega) false, if_neg (by simp)]
  have hH := fun (w : World) hA => Lib.hid (rollHash l A c n w hn h1 h40 hc hl hA _ rfl)
  generalize rhash l = x at *
  clear hn hl
  go_enter Try.func33, Try.ntmps33
  go_wp2_with fail
  refine (hH _ hA).out.mono ?_
  rintro e w1 ⟨rfl, hb1⟩
  go_wp2
  go_ret
  exact ⟨_, 1, rfl, mark_own w1 x _ hb1.size, hb1.alloc hb1.size _⟩

set_option maxHeartbeats 4000000 in
theorem grown_left (f : Nat) (ih : GrwAt f) (l : List Bytes) (A : Option Addr) (c n j : Nat) (wh : Bool) (w : World) (hn : l.length = n) (hf : n ≤ f + 1) (h2 : 1 ≤ j) (h40 : n ≤ 40) (hc : n ≤ c) (hl : ∀ s ∈ l, s.length ≤ 40) (hin : j < n) (hA : Row w A (scells l))
    (k : Nat) (hk : hlf n = k) (hik : j ≤ k) : Calls Try.prog 33 #[.slice A n c, .int .i64 (j : Int), .bool wh] w (RollGives (grw l j wh) w) := by
  have hk1 := hlf_pos n
  have hk2 := hlf_lt (n := n) (by omega)
  rw [hk] at hk1 hk2
  rw [grw_left l j k wh h2 (by omega) (by rw [hn, hk]) hik]
  have hS := fun w => Lib.hid (rollSplit n k w (by omega) h40 hk)
  have ih1 := fun (W : World) hA => Lib.hid (ih (l.take k) A c k j wh W (by rw [List.length_take]; omega) (by omega) h2 (by omega) (by omega) (fun s hs => hl s (List.mem_of_mem_take hs)) hik hA)
  have ih2 := fun (W : World) hA => Lib.hid (rollHash (l.drop k) (A.map (·.add k)) (c - k) (n - k) W (by rw [List.length_drop]; omega) (by omega) (by omega) (by omega) (fun s hs => hl s (List.mem_of_mem_drop hs)) hA _ rfl)
  have hll : (grw (l.take k) j wh).length ≤ 41 := Nat.le_trans (grw_le _ _ _ (by omega)) (by simp; omega)
  have hR1 : ∀ W : World, Below w.heap.size w W → Hid (Row W A (scells (l.take k))) := fun W h => (hA.below h).takeR k
  have hR2 : ∀ W : World, Below w.heap.size w W → Hid (Row W (A.map (·.add k)) (scells (l.drop k))) := fun W h => (hA.below h).dropR k
  obtain ⟨L, hL⟩ : ∃ L, (grw (l.take k) j wh) = L := ⟨_, rfl⟩
  rw [hL] at ih1 hll ⊢
  generalize rhash (l.drop k) = b at *
  obtain ⟨m, rfl⟩ : ∃ m, n = k + (m + 1) := ⟨n - k - 1, by omega⟩
  obtain ⟨d, rfl⟩ : ∃ d, c = k + (d + 1) := ⟨c - k - 1, by omega⟩
  rw [show k + (d + 1) - k = d + 1 by omega, show k + (m + 1) - k = m + 1 by omega] at ih2
  have c1 : ((j : Int) == (k : Int) + ((m : Int) + 1)) = false := beq_eq_false_iff_ne.2 (by omega)
  have c2 : (j : Int) ≤ (k : Int) := by omega
  have hmd : m ≤ d := by omega
  have hsm : (L.length + [b].length) * 8 ≤ 140737488355328 := by simp; omega
  have i1 : (k : Int) ≤ (k : Int) + ((d : Int) + 1) := by omega
  have i2 : (k : Int) ≤ (k : Int) + ((m : Int) + 1) := by omega
  have i0 : (0 : Int) ≤ (k : Int) := by omega
  have hb0 : Below w.heap.size w w.drew := bdrew (Below.refl _ _)
  clear hn hf h2 h40 hc hl hA hk ih hL hin
  go_enter Try.func33, Try.ntmps33
  go_wp2_with fail
  refine (hS _).out.mono ?_
  rintro e w1 ⟨rfl, hw⟩
  subst hw
  clear hS
  go_wp2
  go_region_law (first
    | (refine step_app_marks rfl (.tmp 27) (.tmp 32) rfl w.heap.size _ L ?_ hown' (some ⟨w5.heap.size, 0, none⟩) 1 [b] ?_ (mark_row w5 b _) hsm ?_ ?_; (first | rfl | simp [Act.eval, Act.put]); (first | rfl | simp [Act.eval, Act.put]); (simp; omega); intro v6 w6 hown6 hgrow6; have hb6 : Below w.heap.size w w6 := (hb5'.alloc hb5'.size _).grown hgrow6 (by simp; omega) (fun j hj => (hown'.lt j hj).1))
    | (go_simp; go_at_call 33; refine (ih1 _ (hR1 _ hb0).out).out.mono ?_; rintro e w4 ⟨D, d4, rfl, hown4, hb4⟩; have hb4' : Below w.heap.size w w4 := below_chain hb0 hb4)
    | (go_simp; go_at_call 26; refine (ih2 _ (hR2 _ hb4').out).out.mono ?_; rintro e w5 ⟨rfl, hb5⟩; have hb5' : Below w.heap.size w w5 := below_chain hb4' hb5; have hsz5 := hb5'.size; have hown' := (own_below (own_below hown4 (Below.refl _ _)) hb5).alloc (.cells #[.int .u64 (b : Int)] 23)))
  all_goals
    go_wp2_with fail
    obtain ⟨D6, d6, rfl⟩ := own_shape hown6
    go_ret
    exact ⟨D6, d6, rfl, hown6, hb6⟩

set_option maxHeartbeats 4000000 in
theorem grown_right (f : Nat) (ih : GrwAt f) (l : List Bytes) (A : Option Addr) (c n j : Nat) (wh : Bool) (w : World) (hn : l.length = n) (hf : n ≤ f + 1) (h2 : 1 ≤ j) (h40 : n ≤ 40) (hc : n ≤ c) (hl : ∀ s ∈ l, s.length ≤ 40) (hin : j < n) (hA : Row w A (scells l))
    (k : Nat) (hk : hlf n = k) (hik : k < j) : Calls Try.prog 33 #[.slice A n c, .int .i64 (j : Int), .bool wh] w (RollGives (grw l j wh) w) := by
  have hk1 := hlf_pos n
  have hk2 := hlf_lt (n := n) (by omega)
  rw [hk] at hk1 hk2
  rw [grw_right l j k wh h2 (by omega) (by rw [hn, hk]) hik]
  have hS := fun w => Lib.hid (rollSplit n k w (by omega) h40 hk)
  have ih1 := fun (W : World) hA => Lib.hid (ih (l.drop k) (A.map (·.add k)) (c - k) (n - k) (j - k) false W (by rw [List.length_drop]; omega) (by omega) (by omega) (by omega) (by omega) (fun s hs => hl s (List.mem_of_mem_drop hs)) (by omega) hA)
  have ih2 := fun (W : World) hA => Lib.hid (rollHash (l.take k) A c k W (by rw [List.length_take]; omega) hk1 (by omega) (by omega) (fun s hs => hl s (List.mem_of_mem_take hs)) hA _ rfl)
  have hll : (grw (l.drop k) (j - k) false).length ≤ 41 := Nat.le_trans (grw_le _ _ _ (by omega)) (by simp; omega)
  have hR1 : ∀ W : World, Below w.heap.size w W → Hid (Row W A (scells (l.take k))) := fun W h => (hA.below h).takeR k
  have hR2 : ∀ W : World, Below w.heap.size w W → Hid (Row W (A.map (·.add k)) (scells (l.drop k))) := fun W h => (hA.below h).dropR k
  obtain ⟨L, hL⟩ : ∃ L, (grw (l.drop k) (j - k) false) = L := ⟨_, rfl⟩
  rw [hL] at ih1 hll ⊢
  generalize rhash (l.take k) = b at *
  obtain ⟨m, rfl⟩ : ∃ m, n = k + (m + 1) := ⟨n - k - 1, by omega⟩
  obtain ⟨d, rfl⟩ : ∃ d, c = k + (d + 1) := ⟨c - k - 1, by omega⟩
  rw [show k + (d + 1) - k = d + 1 by omega, show k + (m + 1) - k = m + 1 by omega] at ih1
  have c1 : ((j : Int) == (k : Int) + ((m : Int) + 1)) = false := beq_eq_false_iff_ne.2 (by omega)
  obtain ⟨i, rfl⟩ : ∃ i, j = k + i := ⟨j - k, by omega⟩
  rw [Nat.add_sub_cancel_left] at ih1
  rw [Int.natCast_add] at c1
  have c2 : decide ((k : Int) + (i : Int) ≤ (k : Int)) = false := decide_eq_false (by omega)
  have hwr : IntKind.i64.wrap ((k : Int) + (i : Int) - (k : Int)) = (i : Int) := by rw [IntKind.wrap_i64]; omega
  have hmd : m ≤ d := by omega
  have hsm : (L.length + [b].length) * 8 ≤ 140737488355328 := by simp; omega
  have i1 : (k : Int) ≤ (k : Int) + ((d : Int) + 1) := by omega
  have i2 : (k : Int) ≤ (k : Int) + ((m : Int) + 1) := by omega
  have i0 : (0 : Int) ≤ (k : Int) := by omega
  have hb0 : Below w.heap.size w w.drew := bdrew (Below.refl _ _)
  clear hn hf h2 h40 hc hl hA hk ih hL hin
  go_enter Try.func33, Try.ntmps33
  go_wp2_with fail
  refine (hS _).out.mono ?_
  rintro e w1 ⟨rfl, hw⟩
  subst hw
  clear hS
  go_wp2
  go_region_law (first
    | (refine step_app_marks rfl (.tmp 40) (.tmp 45) rfl w.heap.size _ L ?_ hown' (some ⟨w5.heap.size, 0, none⟩) 1 [b] ?_ (mark_row w5 b _) hsm ?_ ?_; (first | rfl | simp [Act.eval, Act.put]); (first | rfl | simp [Act.eval, Act.put]); (simp; omega); intro v6 w6 hown6 hgrow6; have hb6 : Below w.heap.size w w6 := (hb5'.alloc hb5'.size _).grown hgrow6 (by simp; omega) (fun j hj => (hown'.lt j hj).1))
    | (go_simp; go_at_call 33; refine (ih1 _ (hR2 _ hb0).out).out.mono ?_; rintro e w4 ⟨D, d4, rfl, hown4, hb4⟩; have hb4' : Below w.heap.size w w4 := below_chain hb0 hb4)
    | (go_simp; go_at_call 26; refine (ih2 _ (hR1 _ hb4').out).out.mono ?_; rintro e w5 ⟨rfl, hb5⟩; have hb5' : Below w.heap.size w w5 := below_chain hb4' hb5; have hsz5 := hb5'.size; have hown' := (own_below (own_below hown4 (Below.refl _ _)) hb5).alloc (.cells #[.int .u64 (b : Int)] 23)))
  all_goals
    go_wp2_with fail
    obtain ⟨D6, d6, rfl⟩ := own_shape hown6
    go_ret
    exact ⟨D6, d6, rfl, hown6, hb6⟩

theorem grown_at (f : Nat) : GrwAt f := by
  induction f with
  | zero => intro l A c n m wh w hn hf h1 _ _ _ hmn; omega
  | succ f ih =>
    intro l A c n m wh w hn hf h1 h40 hc hl hmn hA
    rcases Nat.lt_or_ge m n with h2 | h2
    · rcases Nat.lt_or_ge (hlf n) m with h | h
      · exact grown_right f ih l A c n m wh w hn hf h1 h40 hc hl h2 hA _ rfl h
      · exact grown_left f ih l A c n m wh w hn hf h1 h40 hc hl h2 hA _ rfl h
    · obtain rfl : m = n := by omega
      cases wh
      · exact grown_range l A c m w hn h1 h40 hc hl hA
      · exact grown_whole l A c m w hn

/-- The error of Grew. -/
def grewErr (l : List Bytes) (m : Int) : Int := if rfault l ≠ 0 then rfault l else if m < 1 ∨ (l.length : Int) < m then 4 else 0
theorem grewErr_ok (l : List Bytes) (m : Int) : grewErr l m = 0 ↔ RGood l ∧ 1 ≤ m ∧ m ≤ l.length := by
  unfold grewErr
  rw [← rfault_ok]
  by_cases h : rfault l = 0
  · rw [if_neg (by simp [h])]
    split <;> omega
  · rw [if_pos h]
    exact ⟨fun e => absurd e h, fun e => absurd e.1 h⟩

set_option maxHeartbeats 1000000 in
theorem rollGrew_no (A : Option Addr) (c : Nat) (l : List Bytes) (m : Int) (w : World) (hm : l.length ≤ maxLen) (hl : ∀ s ∈ l, s.length ≤ maxLen) (hA : Row w A (scells l)) (r : Int) (hr : grewErr l m = r) (h0 : r ≠ 0) :
    Calls Try.prog 16 #[.slice A l.length c, .int .i64 m] w fun e w' => e = .returned (.tuple #[.slice none 0 0, .int .i64 r]) ∧ w = w' := by
  have hC := fun w hA => Lib.hid (rollCheck A c l w hm hl hA _ rfl)
  unfold grewErr at hr
  unfold maxLen at hm
  by_cases hf : rfault l = 0
  · rw [if_neg (by simp [hf])] at hr
    rw [hf] at hC
    clear hf hl
    by_cases h1 : m < 1
    · rw [if_pos (.inl h1)] at hr
      subst hr
      clear h0
      go_enter Try.func16, Try.ntmps16
      go_wp2_with fail
      refine (hC _ hA).out.mono ?_
      rintro e w1 ⟨rfl, rfl⟩
      go_wp2
      go_ret2
      exact ⟨rfl, rfl⟩
    · by_cases h2 : (l.length : Int) < m
      · rw [if_pos (.inr h2)] at hr
        subst hr
        clear h0
        have c1 : decide (m < 1) = false := decide_eq_false h1
        clear h1
        go_enter Try.func16, Try.ntmps16
        go_wp2_with fail
        refine (hC _ hA).out.mono ?_
        rintro e w1 ⟨rfl, rfl⟩
        go_wp2
        go_ret2
        exact ⟨rfl, rfl⟩
      · rw [if_neg (by omega)] at hr
        exact absurd hr.symm h0
  · rw [if_pos hf] at hr
    rw [hr] at hC
    clear hf hl hr
    have c1 : (r == 0) = false := beq_eq_false_iff_ne.2 h0
    go_enter Try.func16, Try.ntmps16
    go_wp2_with fail
    refine (hC _ hA).out.mono ?_
    rintro e w1 ⟨rfl, rfl⟩
    go_wp2
    go_ret2
    exact ⟨rfl, rfl⟩

set_option maxHeartbeats 1000000 in
theorem rollGrew_yes (A : Option Addr) (c : Nat) (l : List Bytes) (m : Nat) (w : World) (hg : RGood l) (hc : l.length ≤ c) (h1 : 1 ≤ m) (hi : m ≤ l.length) (hA : Row w A (scells l)) :
    Calls Try.prog 16 #[.slice A l.length c, .int .i64 (m : Int)] w (RollGivesOk (grw l m true) w) := by
  have hC := fun w hA => Lib.hid (rollCheck A c l w (by have := hg.le; unfold maxLen; omega) (fun s hs => by have := hg.each s hs; unfold maxLen; omega) hA 0 ((rfault_ok l).2 hg))
  have hB := fun w hA => Lib.hid (grown_at l.length l A c l.length m true w rfl (Nat.le_refl _) h1 hg.le hc hg.each hi hA)
  have h40 := hg.le
  have c1 : decide ((m : Int) < 1) = false := decide_eq_false (by omega)
  have c2 : decide ((l.length : Int) < (m : Int)) = false := decide_eq_false (by omega)
  clear hg hc
  generalize grw l m true = L at *
  go_enter Try.func16, Try.ntmps16
  go_wp2_with fail
  refine (hC _ hA).out.mono ?_
  rintro e w1 ⟨rfl, hw⟩
  subst hw
  clear hC
  go_wp2_with fail
  refine (hB _ hA).out.mono ?_
  rintro e w2 ⟨D, d, rfl, hown, hb2⟩
  go_wp2
  go_ret2
  exact ⟨D, d, rfl, hown, hb2⟩
end Go.Proofs.Ytlobpjpkldmnaaa
