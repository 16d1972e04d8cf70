/- Proofs on plain lists: the preimages along the path, the root, the first error; the proof of a book holds, also behind a name that is set (Merkle). No program in this text. -/
import Derived.Test.YteclnibbgdbjfaaZeros
namespace Go.Proofs.Yteclnibbgdbjfaa

/-- The preimage i levels above the deepest one, out of the hash below it. -/
def up (n : Bytes) (ss : List Nat) (i m : Nat) : Bytes := if (Bin.of n)[15 - i]? = some 48 then nodeOf m (ss[i]?.getD 0) else nodeOf (ss[i]?.getD 0) m
def climb (n : Bytes) (es : List Ent) (ss : List Nat) : Nat → Bytes
  | 0 => leafOf es
  | i + 1 => up n ss i (Hash.of (climb n es ss i))
def psaid (n : Bytes) (es : List Ent) (ss : List Nat) : List Bytes := (List.range 17).map (climb n es ss)
def proot (n : Bytes) (es : List Ent) (ss : List Nat) : Nat := Hash.of (climb n es ss 16)

/-- A prefix of the path with its last byte inverted. -/
def flipAt (n : Bytes) (k : Nat) : Bytes := (Bin.of n).take k ++ [if (Bin.of n)[k]? = some 49 then 48 else 49]
def sidesOf (es : List Ent) (n : Bytes) : List Nat := (List.range 16).map fun i => prefMark es (flipAt n (15 - i))
theorem sidesOf_length (es : List Ent) (n : Bytes) : (sidesOf es n).length = 16 := by rw [sidesOf, List.length_map, List.length_range]
theorem sidesOf_get (es : List Ent) (n : Bytes) (i : Nat) (h : i < 16) : (sidesOf es n)[i]?.getD 0 = prefMark es (flipAt n (15 - i)) := by
  rw [sidesOf, List.getElem?_map, List.getElem?_range h]
  rfl

theorem take_bit (n : Bytes) (k : Nat) (h : k < 16) : ∃ b, (Bin.of n)[k]? = some b ∧ (b = 48 ∨ b = 49) ∧ (Bin.of n).take (k + 1) = (Bin.of n).take k ++ [b] := by
  have hl : k < (Bin.of n).length := by rw [Bin.of_length]; exact h
  exact ⟨(Bin.of n)[k], List.getElem?_eq_getElem hl, of_bit n k hl, List.take_succ_eq_append_getElem hl⟩

/-- Up the path the proof of a book has the hashes of the book's prefixes. -/
theorem climb_of (es : List Ent) (n : Bytes) (i : Nat) (hi : i ≤ 16) : Hash.of (climb n (at16 es (Bin.of n)) (sidesOf es n) i) = prefMark es ((Bin.of n).take (16 - i)) := by
  induction i with
  | zero =>
    have e : (Bin.of n).take 16 = Bin.of n := List.take_of_length_le (by rw [Bin.of_length]; exact Nat.le_refl _)
    rw [climb, Nat.sub_zero, e, prefMark_leaf es _ (Bin.of_length n)]
  | succ i ih =>
    have ih := ih (by omega)
    obtain ⟨b, hb, hbb, ht⟩ := take_bit n (15 - i) (by omega)
    rw [show 15 - i + 1 = 16 - i by omega] at ht
    rw [show 16 - (i + 1) = 15 - i by omega]
    have hl : ((Bin.of n).take (15 - i)).length < 16 := by rw [List.length_take, Bin.of_length]; omega
    rw [climb, up, sidesOf_get es n i (by omega), ih, ht, prefMark_node es _ hl, hb, flipAt, hb]
    rcases hbb with rfl | rfl
    · rw [if_pos rfl, if_neg (by decide)]
    · rw [if_neg (by decide), if_pos rfl]
theorem proot_of (es : List Ent) (n : Bytes) : proot n (at16 es (Bin.of n)) (sidesOf es n) = prefMark es [] := by
  rw [proot, climb_of es n 16 (Nat.le_refl _), Nat.sub_self, List.take_zero]

/-- The path alone counts of a name. -/
theorem climb_path {a b : Bytes} (h : Bin.of a = Bin.of b) (es : List Ent) (ss : List Nat) (i : Nat) : climb a es ss i = climb b es ss i := by
  induction i with
  | zero => rfl
  | succ i ih => rw [climb, climb, up, up, h, ih]
theorem proot_path {a b : Bytes} (h : Bin.of a = Bin.of b) (es : List Ent) (ss : List Nat) : proot a es ss = proot b es ss := by rw [proot, proot, climb_path h]

/-- The first error of a proof. -/
def sameWay (n : Bytes) (es : List Ent) : Bool := es.all fun x => Bin.of x.1 == Bin.of n
def lowM (ss : List Nat) : Bool := ss.all fun z => decide (z < 2305843009213693951)
def pfault (n : Bytes) (es : List Ent) (ss : List Nat) : Int :=
  if Bin.name n = true then (if fault es = 0 then (if sameWay n es = true then (if ss.length = 16 then (if lowM ss = true then 0 else 3) else 3) else 3) else fault es) else 3
structure PGood (n : Bytes) (es : List Ent) (ss : List Nat) : Prop where
  name : Bin.name n = true
  book : Good es
  way : sameWay n es = true
  len : ss.length = 16
  low : lowM ss = true
theorem pfault_ok (n : Bytes) (es : List Ent) (ss : List Nat) : pfault n es ss = 0 ↔ PGood n es ss := by
  unfold pfault
  by_cases h1 : Bin.name n = true
  · rw [if_pos h1]
    by_cases h2 : fault es = 0
    · rw [if_pos h2]
      by_cases h3 : sameWay n es = true
      · rw [if_pos h3]
        by_cases h4 : ss.length = 16
        · rw [if_pos h4]
          by_cases h5 : lowM ss = true
          · rw [if_pos h5]
            exact ⟨fun _ => ⟨h1, (fault_ok es).1 h2, h3, h4, h5⟩, fun _ => rfl⟩
          · rw [if_neg h5]
            exact ⟨fun h => by simp at h, fun h => absurd h.low h5⟩
        · rw [if_neg h4]
          exact ⟨fun h => by simp at h, fun h => absurd h.len h4⟩
      · rw [if_neg h3]
        exact ⟨fun h => by simp at h, fun h => absurd h.way h3⟩
    · rw [if_neg h2]
      exact ⟨fun h => absurd h h2, fun h => absurd ((fault_ok es).2 h.book) h2⟩
  · rw [if_neg h1]
    exact ⟨fun h => by simp at h, fun h => absurd h.name h1⟩

theorem good_filter {es : List Ent} (h : Good es) (P : Ent → Bool) : Good (es.filter P) :=
  ⟨Nat.le_trans (List.length_filter_le _ _) h.len, fun x hx => h.name x (List.mem_filter.1 hx).1, fun x hx => h.value x (List.mem_filter.1 hx).1, h.order.sublist (List.filter_sublist.map _)⟩
theorem lowM_get {ss : List Nat} (h : lowM ss = true) (i : Nat) (hi : i < ss.length) : ss[i] < 2305843009213693951 := of_decide_eq_true (List.all_eq_true.1 h _ (List.getElem_mem hi))
theorem proofOf_good {es : List Ent} {n : Bytes} (h : Good es) (hn : Bin.name n = true) : PGood n (at16 es (Bin.of n)) (sidesOf es n) := by
  refine ⟨hn, good_filter h _, ?_, sidesOf_length es n, ?_⟩
  · unfold sameWay at16
    rw [List.all_eq_true]
    intro x hx
    exact (List.mem_filter.1 hx).2
  · unfold lowM sidesOf
    rw [List.all_eq_true]
    intro z hz
    obtain ⟨i, _, rfl⟩ := List.mem_map.1 hz
    exact decide_eq_true (pm_lt _ _ _)

theorem stands_filter (P : Bytes → Bool) (es : List Ent) (m : Bytes) : stands (es.filter fun x => P x.1) m = if P m = true then stands es m else none := by
  induction es with
  | nil => simp [stands]
  | cons x es ih =>
    rw [List.filter_cons]
    by_cases h : P x.1 = true
    · rw [if_pos h, stands, stands, ih]
      by_cases e : x.1 = m
      · rw [if_pos e, if_pos e, if_pos (by rw [← e]; exact h)]
      · rw [if_neg e, if_neg e]
    · rw [if_neg h, ih, stands]
      by_cases e : x.1 = m
      · rw [if_neg (by rw [← e]; exact h), if_neg (by rw [← e]; exact h)]
      · rw [if_neg e]
theorem stands_at16 (es : List Ent) (n : Bytes) : stands (at16 es (Bin.of n)) n = stands es n := by
  have := stands_filter (fun m => Bin.of m == Bin.of n) es n
  rw [if_pos (beq_iff_eq.2 rfl)] at this
  exact this
theorem at16_setTo (es : List Ent) (n v : Bytes) : at16 (setTo n v es) (Bin.of n) = setTo n v (at16 es (Bin.of n)) := by
  have f1 := stands_filter (fun m => Bin.of m == Bin.of n) (setTo n v es)
  have f2 := stands_filter (fun m => Bin.of m == Bin.of n) es
  refine book_ext ((setTo_order n v es).sublist (List.filter_sublist.map _)) (setTo_order n v _) fun m => ?_
  rw [stands_setTo]
  refine (f1 m).trans ?_
  refine Eq.trans ?_ (congrArg (fun z => if m = n then some v else z) (f2 m).symm)
  rw [stands_setTo]
  by_cases e : m = n
  · subst e
    rw [if_pos (beq_iff_eq.2 rfl), if_pos rfl, if_pos rfl]
  · rw [if_neg e, if_neg e]
theorem und_setTo (es : List Ent) (n v q : Bytes) (ho : (es.map (·.1)).Pairwise Bin.R) (h : begins q (Bin.of n) = false) : und q (setTo n v es) = und q es := by
  have f1 := stands_filter (fun m => begins q (Bin.of m)) (setTo n v es)
  have f2 := stands_filter (fun m => begins q (Bin.of m)) es
  refine book_ext ((setTo_order n v es).sublist (List.filter_sublist.map _)) (ho.sublist (List.filter_sublist.map _)) fun m => ?_
  refine (f1 m).trans (Eq.trans ?_ (f2 m).symm)
  rw [stands_setTo]
  by_cases e : m = n
  · subst e
    rw [if_neg (by rw [h]; simp), if_neg (by rw [h]; simp)]
  · rw [if_neg e]
theorem prefMark_setTo (es : List Ent) (n v q : Bytes) (ho : (es.map (·.1)).Pairwise Bin.R) (h : begins q (Bin.of n) = false) : prefMark (setTo n v es) q = prefMark es q := by
  rw [← prefMark_und, und_setTo es n v q ho h, prefMark_und]
theorem flip_not (n : Bytes) (k : Nat) (h : k < 16) : begins (flipAt n k) (Bin.of n) = false := by
  obtain ⟨b, hb, hbb, ht⟩ := take_bit n k h
  have hl : (flipAt n k).length = k + 1 := by rw [flipAt, List.length_append, List.length_singleton, List.length_take, Bin.of_length]; omega
  rw [begins, hl, ht, flipAt, hb, beq_eq_false_iff_ne]
  intro e
  have e2 := List.append_cancel_left e
  injection e2 with e2
  rcases hbb with rfl | rfl
  · rw [if_neg (by decide)] at e2
    exact absurd e2 (by decide)
  · rw [if_pos rfl] at e2
    exact absurd e2 (by decide)
theorem sidesOf_setTo (es : List Ent) (n v : Bytes) (ho : (es.map (·.1)).Pairwise Bin.R) : sidesOf (setTo n v es) n = sidesOf es n := by
  unfold sidesOf
  apply List.map_congr_left
  intro i hi
  have := List.mem_range.1 hi
  exact prefMark_setTo es n v _ ho (flip_not n _ (by omega))
/-- The root behind a name that is set, out of the proof alone. -/
theorem proot_setTo (es : List Ent) (n v : Bytes) (ho : (es.map (·.1)).Pairwise Bin.R) : proot n (setTo n v (at16 es (Bin.of n))) (sidesOf es n) = prefMark (setTo n v es) [] := by
  rw [← at16_setTo es n v, ← sidesOf_setTo es n v ho, proot_of]
end Go.Proofs.Yteclnibbgdbjfaa
