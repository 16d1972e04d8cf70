/- package roll: hash returns the hash of a log; the reference's RollMark that of a stretch of it. -/
import Derived.Test.YtlobpjpkldmnaaaRollHalf
import Derived.Test.YtlobpjpkldmnaaaRollCheck
namespace Go.Proofs.Ytlobpjpkldmnaaa
set_option maxRecDepth 100000
open Go.RowKit

theorem scells_takeR (ss : List Bytes) (p : Nat) : scells (ss.take p) = (scells ss).take p := by simp [scells]
theorem scells_dropR (ss : List Bytes) (p : Nat) : scells (ss.drop p) = (scells ss).drop p := by simp [scells]
theorem Row.takeR {w : World} {A : Option Addr} {ss : List Bytes} (h : Row w A (scells ss)) (p : Nat) : Row w A (scells (ss.take p)) := by rw [scells_takeR]; exact h.take _
theorem Row.dropR {w : World} {A : Option Addr} {ss : List Bytes} (h : Row w A (scells ss)) (p : Nat) : Row w (A.map (·.add p)) (scells (ss.drop p)) := by rw [scells_dropR]; exact h.drop _

/-- The contract of hash for at most f strings. -/
def RHashAt (f : Nat) : Prop := ∀ (l : List Bytes) (A : Option Addr) (c n : Nat) (w : World), l.length = n → n ≤ f → 1 ≤ n → n ≤ 40 → n ≤ c → (∀ s ∈ l, s.length ≤ 40) → Row w A (scells l) →
  ∀ x, rhash l = x → Calls Try.prog 26 #[.slice A n c] w fun e w' => e = .returned (.int .u64 (x : Int)) ∧ Below w.heap.size w w'

set_option maxHeartbeats 400000 in
theorem rollHash_one (s : Bytes) (A : Option Addr) (c : Nat) (w : World) (hs : s.length ≤ 40) (hA : Row w A (scells [s])) (x : Nat) (hx : rhash [s] = x) :
    Calls Try.prog 26 #[.slice A 1 c] w fun e w' => e = .returned (.int .u64 (x : Int)) ∧ Below w.heap.size w w' := by
  rw [rhash_one] at hx
  have hO := fun w => Lib.hid (rollOne s x w (by unfold maxLen; omega) hx)
  obtain ⟨g, off, rfl, j1⟩ := hA.strR 0 (by simp)
  simp only [Nat.add_zero, List.getElem_cons_zero] at j1
  clear hA hx
  go_enter Try.func26, Try.ntmps26
  go_wp2_with fail
  refine (hO _).out.mono ?_
  rintro e w1 ⟨rfl, m, rfl⟩
  go_wp2
  go_ret
  exact ⟨rfl, below_of_drewN _ _ _⟩

set_option maxHeartbeats 2000000 in
theorem rollHash_node (f : Nat) (ih : RHashAt f) (l : List Bytes) (A : Option Addr) (c n : Nat) (w : World) (hn : l.length = n) (hf : n ≤ f + 1) (h2 : 2 ≤ n) (h40 : n ≤ 40) (hc : n ≤ c) (hl : ∀ s ∈ l, s.length ≤ 40) (hA : Row w A (scells l))
    (x : Nat) (hx : rhash l = x) : Calls Try.prog 26 #[.slice A n c] w fun e w' => e = .returned (.int .u64 (x : Int)) ∧ Below w.heap.size w w' := by
  generalize hk : hlf n = k
  have hk1 := hlf_pos n
  have hk2 := hlf_lt h2
  rw [hk] at hk1 hk2
  rw [rhash_node l (by omega) k (by rw [hn, hk])] at hx
  have hS := fun w => Lib.hid (rollSplit n k w h2 h40 hk)
  have ih1 := fun (W : World) hA => Lib.hid (ih (l.take k) A c k W (by rw [List.length_take]; omega) (by omega) hk1 (by omega) (by omega) (fun s hs => hl s (List.mem_of_mem_take hs)) hA _ rfl)
  have ih2 := fun (W : World) hA => Lib.hid (ih (l.drop k) (A.map (·.add k)) (c - k) (n - k) W (by rw [List.length_drop]; omega) (by omega) (by omega) (by omega) (by omega) (fun s hs => hl s (List.mem_of_mem_drop hs)) hA _ rfl)
  have hla : rhash (l.take k) < 18446744073709551616 := Nat.lt_trans (rhash_lt _) (by decide)
  have hlb : rhash (l.drop k) < 18446744073709551616 := Nat.lt_trans (rhash_lt _) (by decide)
  have hJ := fun w => Lib.hid (rollJoin _ _ x w hla hlb hx)
  have hR1 : ∀ W : World, Below w.heap.size w W → Hid (Row W A (scells (l.take k))) := fun W h => (hA.below h).takeR k
  have hR2 : ∀ W : World, Below w.heap.size w W → Hid (Row W (A.map (·.add k)) (scells (l.drop k))) := fun W h => (hA.below h).dropR k
  generalize rhash (l.take k) = a at *
  generalize rhash (l.drop k) = b at *
  obtain ⟨m, rfl⟩ : ∃ m, n = k + (m + 1) := ⟨n - k - 1, by omega⟩
  obtain ⟨d, rfl⟩ : ∃ d, c = k + (d + 1) := ⟨c - k - 1, by omega⟩
  rw [show k + (d + 1) - k = d + 1 by omega, show k + (m + 1) - k = m + 1 by omega] at ih2
  have hmd : m ≤ d := by omega
  have c1 : (((k + (m + 1) : Nat) : Int) == 1) = false := beq_eq_false_iff_ne.2 (by omega)
  have hb0 : Below w.heap.size w w.drew := bdrew (Below.refl _ _)
  clear hn hf h2 h40 hc hl hA hx hk hla hlb
  go_enter Try.func26, Try.ntmps26
  go_wp2_with fail
  refine (hS _).out.mono ?_
  rintro e w1 ⟨rfl, hw⟩
  have hw := hw.symm
  subst hw
  clear hS
  go_wp2
  go_region_with (first
    | (go_at_call_of 26 m; refine (ih2 _ (hR2 _ (by first | exact hb0 | exact hb1)).out).out.mono ?_; rintro e wb ⟨rfl, hbb⟩; first | have hb2 := below_chain hb1 hbb | have hb2 := below_chain hb0 hbb)
    | (go_at_call 26; refine (ih1 _ (hR1 _ (by first | exact hb0 | exact hb2)).out).out.mono ?_; rintro e wa ⟨rfl, hba⟩; first | have hb1 := below_chain hb2 hba | have hb1 := below_chain hb0 hba)
    | (go_at_call 41; refine (hJ _).out.mono ?_; rintro e wj ⟨rfl, hbj⟩))
  all_goals go_wp2
  all_goals go_ret
  all_goals exact ⟨rfl, by first | exact below_chain hb2 hbj | exact below_chain hb1 hbj⟩

theorem rollHash_at (f : Nat) : RHashAt f := by
  induction f with
  | zero => intro l A c n w hn hf h1; omega
  | succ f ih =>
    intro l A c n w hn hf h1 h40 hc hl hA x hx
    rcases Nat.lt_or_ge 1 n with h2 | h2
    · exact rollHash_node f ih l A c n w hn hf h2 h40 hc hl hA x hx
    · obtain rfl : n = 1 := by omega
      rcases l with _ | ⟨s, l⟩
      · simp at hn
      · rw [List.length_cons] at hn
        obtain rfl : l = [] := List.eq_nil_of_length_eq_zero (by omega)
        exact rollHash_one s A c w (hl s (by simp)) hA x hx
theorem rollHash (l : List Bytes) (A : Option Addr) (c n : Nat) (w : World) (hn : l.length = n) (h1 : 1 ≤ n) (h40 : n ≤ 40) (hc : n ≤ c) (hl : ∀ s ∈ l, s.length ≤ 40) (hA : Row w A (scells l)) (x : Nat) (hx : rhash l = x) :
    Calls Try.prog 26 #[.slice A n c] w fun e w' => e = .returned (.int .u64 (x : Int)) ∧ Below w.heap.size w w' :=
  rollHash_at n l A c n w hn (Nat.le_refl _) h1 h40 hc hl hA x hx

/-- The strings from a on, up to b. -/
def seg (l : List Bytes) (a b : Nat) : List Bytes := (l.take b).drop a
theorem seg_length (l : List Bytes) (a b : Nat) (h : b ≤ l.length) : (seg l a b).length = b - a := by unfold seg; simp; omega
theorem seg_take (l : List Bytes) (a b k : Nat) (h : k ≤ b) : (seg l a b).take (k - a) = seg l a k := by
  unfold seg
  rw [← List.drop_take, List.take_take, Nat.min_eq_left h]
theorem seg_drop (l : List Bytes) (a b k : Nat) (h : a ≤ k) : (seg l a b).drop (k - a) = seg l k b := by
  unfold seg
  rw [List.drop_drop, show a + (k - a) = k by omega]
theorem seg_all (l : List Bytes) : seg l 0 l.length = l := by unfold seg; simp
theorem seg_one (l : List Bytes) (a : Nat) (h : a < l.length) : seg l a (a + 1) = [l[a]] := by
  unfold seg
  rw [List.take_succ_eq_append_getElem h, List.drop_append, List.drop_eq_nil_of_le (by simp; omega)]
  simp [Nat.min_eq_left (Nat.le_of_lt h)]

def RefHashAt (f : Nat) : Prop := ∀ (l : List Bytes) (A : Option Addr) (c a b : Nat) (w : World), b - a ≤ f → a < b → b ≤ l.length → l.length ≤ 40 → (∀ s ∈ l, s.length ≤ 40) → Row w A (scells l) →
  ∀ x, rhash (seg l a b) = x → Calls Try.prog 12 #[.slice A l.length c, .int .i64 (a : Int), .int .i64 (b : Int)] w fun e w' => e = .returned (.int .u64 (x : Int)) ∧ Below w.heap.size w w'

set_option maxHeartbeats 400000 in
theorem refHash_one (l : List Bytes) (A : Option Addr) (c a : Nat) (w : World) (ha : a < l.length) (_h40 : l.length ≤ 40) (hl : ∀ s ∈ l, s.length ≤ 40) (hA : Row w A (scells l)) (x : Nat) (hx : rhash (seg l a (a + 1)) = x) :
    Calls Try.prog 12 #[.slice A l.length c, .int .i64 (a : Int), .int .i64 ((a + 1 : Nat) : Int)] w fun e w' => e = .returned (.int .u64 (x : Int)) ∧ Below w.heap.size w w' := by
  rw [seg_one l a ha, rhash_one] at hx
  obtain ⟨g, off, rfl, j1⟩ := hA.strR a ha
  have hs := hl _ (List.getElem_mem ha)
  generalize l[a] = s at *
  have hO := fun w => Lib.hid (refMark ([4] ++ s) w (by rw [List.length_append]; unfold maxLen; simp; omega))
  rw [show [4] ++ s = 4 :: s from rfl, hx, show (4 :: s) = [4] ++ s from rfl] at hO
  have e4 : (⟨#[4]⟩ : ByteArray) = S [4] := rfl
  have hi0 : (0 : Int) ≤ (a : Int) := by omega
  have hi1 : (a : Int) < (l.length : Int) := by omega
  have c1 : ((((a + 1 : Nat) : Int) - (a : Int)) == 1) = true := beq_iff_eq.2 (by omega)
  have c2 : (((a : Int) + 1 - (a : Int)) == 1) = true := beq_iff_eq.2 (by omega)
  clear hA hx hl ha
  go_enter Try.func12, Try.ntmps12
  go_wp2_with fail
  refine (hO _).out.mono ?_
  rintro e w1 ⟨rfl, rfl⟩
  go_wp2
  go_ret
  exact ⟨rfl, Below.refl _ _⟩

set_option maxHeartbeats 2000000 in
theorem refHash_node (f : Nat) (ih : RefHashAt f) (l : List Bytes) (A : Option Addr) (c a b : Nat) (w : World) (hf : b - a ≤ f + 1) (h2 : a + 2 ≤ b) (hb : b ≤ l.length) (h40 : l.length ≤ 40) (hl : ∀ s ∈ l, s.length ≤ 40) (hA : Row w A (scells l))
    (x : Nat) (hx : rhash (seg l a b) = x) : Calls Try.prog 12 #[.slice A l.length c, .int .i64 (a : Int), .int .i64 (b : Int)] w fun e w' => e = .returned (.int .u64 (x : Int)) ∧ Below w.heap.size w w' := by
  generalize hk : hlf (b - a) = k
  have hk1 := hlf_pos (b - a)
  have hk2 := hlf_lt (n := b - a) (by omega)
  rw [hk] at hk1 hk2
  have e1 := seg_take l a b (a + k) (by omega)
  have e2 := seg_drop l a b (a + k) (by omega)
  rw [show a + k - a = k by omega] at e1 e2
  rw [rhash_node (seg l a b) (by rw [seg_length l a b hb]; omega) k (by rw [seg_length l a b hb, hk]), e1, e2] at hx
  have hS := fun w => Lib.hid (refHalf (b - a) k w (by omega) hk)
  have ih1 := fun (W : World) hA => Lib.hid (ih l A c a (a + k) W (by omega) (by omega) (by omega) h40 hl hA _ rfl)
  have ih2 := fun (W : World) hA => Lib.hid (ih l A c (a + k) b W (by omega) (by omega) hb h40 hl hA _ rfl)
  have hla : rhash (seg l a (a + k)) < 18446744073709551616 := Nat.lt_trans (rhash_lt _) (by decide)
  have hlb : rhash (seg l (a + k) b) < 18446744073709551616 := Nat.lt_trans (rhash_lt _) (by decide)
  have hT := fun w => Lib.hid (refTwo 5 _ _ w hla hlb)
  have hM := fun w => Lib.hid (refMark (said 5 (rhash (seg l a (a + k))) (rhash (seg l (a + k) b))) w (by unfold maxLen said; simp [be8_length]))
  rw [hx] at hM
  rw [show ((5 : UInt8).toNat : Int) = 5 from rfl] at hT
  rw [show ((b - a : Nat) : Int) = (b : Int) - (a : Int) by omega] at hS
  generalize rhash (seg l a (a + k)) = p at *
  generalize rhash (seg l (a + k) b) = q at *
  generalize said 5 p q = s at *
  obtain ⟨m, hm⟩ : ∃ m, m = a + k := ⟨_, rfl⟩
  rw [← hm] at ih1 ih2
  have hm' : (a : Int) + (k : Int) = (m : Int) := by omega
  have hw : IntKind.i64.wrap ((b : Int) - (a : Int)) = (b : Int) - (a : Int) := by rw [IntKind.wrap_i64]; omega
  have hwm : IntKind.i64.wrap ((a : Int) + (k : Int)) = (m : Int) := by rw [IntKind.wrap_i64]; omega
  have hww : IntKind.i64.wrap (m : Int) = (m : Int) := by rw [IntKind.wrap_i64]; omega
  have c1 : (((b : Int) - (a : Int)) == 1) = false := beq_eq_false_iff_ne.2 (by omega)
  clear hf hl hx hk hla hlb e1 e2 hm
  go_enter Try.func12, Try.ntmps12
  go_wp2_with fail
  refine (hS _).out.mono ?_
  rintro e w1 ⟨rfl, hw1⟩
  have hw1 := hw1.symm
  subst hw1
  clear hS
  go_wp2_with fail
  refine (ih1 _ hA).out.mono ?_
  rintro e w2 ⟨rfl, hb2⟩
  go_wp2_with fail
  refine (ih2 _ (hA.below hb2)).out.mono ?_
  rintro e w3 ⟨rfl, hb3⟩
  go_wp2_with fail
  refine (hT _).out.mono ?_
  rintro e w4 ⟨rfl, hb4⟩
  go_wp2_with fail
  refine (hM _).out.mono ?_
  rintro e w5 ⟨rfl, rfl⟩
  go_wp2
  go_ret
  exact ⟨rfl, below_chain (below_chain hb2 hb3) hb4⟩

theorem refHash_at (f : Nat) : RefHashAt f := by
  induction f with
  | zero => intro l A c a b w hf h1; omega
  | succ f ih =>
    intro l A c a b w hf h1 hb h40 hl hA x hx
    rcases Nat.lt_or_ge (a + 1) b with h2 | h2
    · exact refHash_node f ih l A c a b w hf h2 hb h40 hl hA x hx
    · obtain rfl : b = a + 1 := by omega
      exact refHash_one l A c a w (by omega) h40 hl hA x hx
theorem refHash (l : List Bytes) (A : Option Addr) (c a b : Nat) (w : World) (h1 : a < b) (hb : b ≤ l.length) (h40 : l.length ≤ 40) (hl : ∀ s ∈ l, s.length ≤ 40) (hA : Row w A (scells l)) (x : Nat) (hx : rhash (seg l a b) = x) :
    Calls Try.prog 12 #[.slice A l.length c, .int .i64 (a : Int), .int .i64 (b : Int)] w fun e w' => e = .returned (.int .u64 (x : Int)) ∧ Below w.heap.size w w' :=
  refHash_at (b - a) l A c a b w (Nat.le_refl _) h1 hb h40 hl hA x hx
end Go.Proofs.Ytlobpjpkldmnaaa
