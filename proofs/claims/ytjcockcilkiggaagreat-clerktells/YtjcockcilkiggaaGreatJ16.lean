/- The hashes of the prefixes of a book, on plain lists; entries grouped by their paths in a map of slices of the call's own. -/
import Derived.Test.YtjcockcilkiggaaGreatJ15
import Derived.Test.YtjcockcilkiggaaGreatJ07
import Derived.Test.YtjcockcilkiggaaGreatJ03
import Derived.Test.YtjcockcilkiggaaGreatJ01
import Derived.Test.YtjcockcilkiggaaGreatJ06
namespace Go.Proofs.YtjcockcilkiggaaGreat
open Go.RowKit Go.Maps

/-- The entries of one path. -/
def at16 (es : List Ent) (p : Bytes) : List Ent := es.filter fun x => Bin.of x.1 == p
/-- The hash of a prefix that has k bits to go. -/
def pm (es : List Ent) : Nat → Bytes → Nat
  | 0, p => Hash.of (leafOf (at16 es p))
  | k + 1, p => Hash.of (nodeOf (pm es k (p ++ [48])) (pm es k (p ++ [49])))
def prefMark (es : List Ent) (p : Bytes) : Nat := pm es (16 - p.length) p

theorem pm_lt (es : List Ent) (k : Nat) (p : Bytes) : pm es k p < 2305843009213693951 := by
  cases k with
  | zero => exact Hash.of_lt _
  | succ k => exact Hash.of_lt _
theorem pm_none (es : List Ent) (k : Nat) (p : Bytes) (hk : p.length + k = 16) (h : ∀ x ∈ es, (Bin.of x.1).take p.length ≠ p) : pm es k p = nil0 := by
  induction k generalizing p with
  | zero =>
    have e : at16 es p = [] := by
      unfold at16
      rw [List.filter_eq_nil_iff]
      intro x hx hp
      apply h x hx
      have := Bin.of_length x.1
      rw [beq_iff_eq] at hp
      rw [hp, List.take_length]
    show Hash.of (leafOf (at16 es p)) = nil0
    rw [e]
    rfl
  | succ k ih =>
    have step : ∀ c : UInt8, pm es k (p ++ [c]) = nil0 := fun c => ih _ (by rw [List.length_append, List.length_singleton]; omega) (fun x hx e => h x hx (by
      have := congrArg (List.take p.length) e
      rw [List.length_append, List.length_singleton, List.take_take, Nat.min_eq_left (by omega), List.take_left'] at this
      · exact this
      · rfl))
    show Hash.of (nodeOf (pm es k (p ++ [48])) (pm es k (p ++ [49]))) = nil0
    rw [step, step, nodeOf, if_pos ⟨rfl, rfl⟩]
    rfl
theorem prefMark_none (es : List Ent) (p : Bytes) (hp : p.length ≤ 16) (h : ∀ x ∈ es, (Bin.of x.1).take p.length ≠ p) : prefMark es p = nil0 := pm_none es _ p (by omega) h
theorem prefMark_leaf (es : List Ent) (p : Bytes) (hp : p.length = 16) : prefMark es p = Hash.of (leafOf (at16 es p)) := by
  unfold prefMark
  rw [hp]
  rfl
theorem pm_succ (es : List Ent) (k : Nat) (p : Bytes) : pm es (k + 1) p = Hash.of (nodeOf (pm es k (p ++ [48])) (pm es k (p ++ [49]))) := by
  simp only [pm]
theorem prefMark_node (es : List Ent) (p : Bytes) (hp : p.length < 16) : prefMark es p = Hash.of (nodeOf (prefMark es (p ++ [48])) (prefMark es (p ++ [49]))) := by
  have h := pm_succ es (15 - p.length) p
  have e1 : prefMark es p = pm es (15 - p.length + 1) p := by
    unfold prefMark
    congr 1
    omega
  have e2 : ∀ c : UInt8, prefMark es (p ++ [c]) = pm es (15 - p.length) (p ++ [c]) := by
    intro c
    unfold prefMark
    rw [List.length_append, List.length_singleton]
    congr 1
    omega
  rw [e1, e2, e2]
  exact h

theorem at16_snoc (es : List Ent) (x : Ent) (p : Bytes) : at16 (es ++ [x]) p = at16 es p ++ (if Bin.of x.1 = p then [x] else []) := by
  unfold at16
  rw [List.filter_append, List.filter_cons, List.filter_nil]
  by_cases h : Bin.of x.1 = p
  · rw [if_pos (beq_iff_eq.2 h), if_pos h]
  · rw [if_neg (fun e => h (beq_iff_eq.1 e)), if_neg h]

/-- Each path's entries lie in a row of their own, from block base on. -/
structure Grouped (w : World) (base : Nat) (es : List Ent) (g : Bytes → Option Value) : Prop where
  none_ : ∀ p, g p = none ↔ at16 es p = []
  rows : ∀ p v, g p = some v → w.ownsRow base 51 2 v (at16 es p).length (encells (at16 es p))
  apart : ∀ p q v u, p ≠ q → g p = some v → g q = some u → v.ownBlock ≠ u.ownBlock

theorem Grouped.block {w : World} {base : Nat} {es : List Ent} {g : Bytes → Option Value} (h : Grouped w base es g) {p : Bytes} {v : Value} (hv : g p = some v) : ∃ k, v.ownBlock = some k ∧ base ≤ k ∧ k < w.heap.size := by
  have hr := h.rows p v hv
  have hne : at16 es p ≠ [] := fun e => by rw [(h.none_ p).2 e] at hv; cases hv
  rcases hr.2 with ⟨_, h0⟩ | ⟨k, cap, cur, rfl, _⟩
  · exact absurd (List.eq_nil_of_length_eq_zero h0) hne
  · have := hr.lt k rfl
    exact ⟨k, rfl, this⟩
theorem Grouped.start (w : World) (base : Nat) : Grouped w base [] (fun _ => none) :=
  ⟨fun _ => ⟨fun _ => rfl, fun _ => rfl⟩, fun _ _ h => (by cases h), fun _ _ _ _ _ h => (by cases h)⟩
theorem Grouped.kept {w w' : World} {base : Nat} {es : List Ent} {g : Bytes → Option Value} {row : Option Nat} (h : Grouped w base es g) (hg : w.grownBy w' row) (hr : ∀ p v, g p = some v → v.ownBlock ≠ row) : Grouped w' base es g :=
  ⟨h.none_, fun p v hv => (h.rows p v hv).kept hg (.inr (hr p v hv)), h.apart⟩
theorem Grouped.below {w w' : World} {base : Nat} {es : List Ent} {g : Bytes → Option Value} (h : Grouped w base es g) (hb : Below w.heap.size w w') : Grouped w' base es g :=
  h.kept (grown_below hb none) (fun p v hv e => by obtain ⟨k, hk, _⟩ := h.block hv; rw [hk] at e; cases e)
theorem Grouped.low {w w' : World} {base b : Nat} {es : List Ent} {g : Bytes → Option Value} (h : Grouped w base es g) (hg : w.grownBy w' (some b)) (hb : b < base) : Grouped w' base es g :=
  h.kept hg (fun p v hv e => by obtain ⟨k, hk, hk', _⟩ := h.block hv; rw [hk] at e; injection e with e; omega)
/-- What is at a path, nil where there is nothing. -/
theorem Grouped.at {w : World} {base : Nat} {es : List Ent} {g : Bytes → Option Value} (h : Grouped w base es g) (p : Bytes) : w.ownsRow base 51 2 ((g p).getD (.slice none 0 0)) (at16 es p).length (encells (at16 es p)) := by
  cases hg : g p with
  | none =>
    rw [(h.none_ p).1 hg]
    exact World.ownsRow_nil _ _ _ _
  | some v => exact h.rows p v hg
/-- One entry more at its path. -/
theorem Grouped.step {w w' : World} {base : Nat} {es : List Ent} {g : Bytes → Option Value} (h : Grouped w base es g) (x : Ent) (v' : Value) (n : Nat) (hn : n = (at16 es (Bin.of x.1) ++ [x]).length)
    (hg : w.grownBy w' ((g (Bin.of x.1)).getD (.slice none 0 0)).ownBlock) (hown : w'.ownsRow base 51 2 v' n (encells (at16 es (Bin.of x.1) ++ [x])))
    (hloc : v'.ownBlock = ((g (Bin.of x.1)).getD (.slice none 0 0)).ownBlock ∨ ∃ k, v'.ownBlock = some k ∧ w.heap.size ≤ k) :
    Grouped w' base (es ++ [x]) (fun q => if q = Bin.of x.1 then some v' else g q) := by
  subst hn
  refine ⟨fun p => ?_, fun p v hv => ?_, fun p q v u hpq hv hu => ?_⟩
  · by_cases e : p = Bin.of x.1
    · rw [if_pos e, at16_snoc, if_pos e.symm]
      simp
    · rw [if_neg e, at16_snoc, if_neg (fun h => e h.symm), List.append_nil]
      exact h.none_ p
  · by_cases e : p = Bin.of x.1
    · rw [if_pos e] at hv
      injection hv with hv
      subst hv
      rw [at16_snoc, if_pos e.symm, e]
      exact hown
    · rw [if_neg e] at hv
      rw [at16_snoc, if_neg (fun h => e h.symm), List.append_nil]
      refine (h.rows p v hv).kept hg (.inr ?_)
      cases ho : g (Bin.of x.1) with
      | none =>
        obtain ⟨k, hk, _⟩ := h.block hv
        rw [hk]
        simp [Value.ownBlock]
      | some o => exact h.apart p _ v o e hv ho
  · by_cases e : p = Bin.of x.1
    · rw [if_pos e] at hv
      injection hv with hv
      subst hv
      rw [if_neg (fun h => hpq (e.trans h.symm))] at hu
      obtain ⟨k, hk, _, hk'⟩ := h.block hu
      rcases hloc with hl | ⟨j, hj, hj'⟩
      · rw [hl]
        cases ho : g (Bin.of x.1) with
        | none =>
          rw [hk]
          simp [Value.ownBlock]
        | some o => exact h.apart _ q o u (fun h => hpq (e.trans h)) ho hu
      · rw [hj, hk]
        intro h
        injection h with h
        omega
    · rw [if_neg e] at hv
      by_cases e2 : q = Bin.of x.1
      · rw [if_pos e2] at hu
        injection hu with hu
        subst hu
        obtain ⟨k, hk, _, hk'⟩ := h.block hv
        rcases hloc with hl | ⟨j, hj, hj'⟩
        · rw [hl]
          cases ho : g (Bin.of x.1) with
          | none =>
            rw [hk]
            simp [Value.ownBlock]
          | some o => exact h.apart p _ v o e hv ho
        · rw [hj, hk]
          intro h
          injection h with h
          omega
      · rw [if_neg e2] at hu
        exact h.apart p q v u hpq hv hu
end Go.Proofs.YtjcockcilkiggaaGreat
/- The entries under a prefix, on plain lists: those with 0 behind it come first, those with 1 behind them; the hash of a prefix is told by the entries under it. No program in this text. -/
namespace Go.Proofs.YtjcockcilkiggaaGreat

theorem at16_und (es : List Ent) (q p : Bytes) (h : p.take q.length = q) : at16 (und q es) p = at16 es p := by
  unfold at16 und
  rw [List.filter_filter]
  apply List.filter_congr
  intro x _
  by_cases e : Bin.of x.1 = p
  · rw [e, begins, h]; simp
  · rw [beq_eq_false_iff_ne.2 e, Bool.false_and]
theorem pm_und (es : List Ent) (q : Bytes) (k : Nat) (p : Bytes) (hl : q.length ≤ p.length) (h : p.take q.length = q) : pm (und q es) k p = pm es k p := by
  induction k generalizing p with
  | zero =>
    show Hash.of (leafOf (at16 (und q es) p)) = Hash.of (leafOf (at16 es p))
    rw [at16_und es q p h]
  | succ k ih =>
    have e : ∀ c : UInt8, pm (und q es) k (p ++ [c]) = pm es k (p ++ [c]) := fun c => ih _ (by rw [List.length_append]; omega) (by rw [List.take_append_of_le_length hl]; exact h)
    rw [pm_succ, pm_succ, e, e]
theorem prefMark_und (es : List Ent) (q : Bytes) : prefMark (und q es) q = prefMark es q := pm_und es q _ q (Nat.le_refl _) List.take_length

theorem begins_snoc (p a : Bytes) (c : UInt8) (h : p.length < a.length) : begins (p ++ [c]) a = (begins p a && a[p.length] == c) := by
  unfold begins
  rw [List.length_append, List.length_singleton, List.take_succ_eq_append_getElem h, Bool.eq_iff_iff, Bool.and_eq_true, beq_iff_eq, beq_iff_eq, beq_iff_eq]
  constructor
  · intro e
    obtain ⟨h1, h2⟩ := List.append_inj' e rfl
    exact ⟨h1, by simpa using h2⟩
  · rintro ⟨h1, h2⟩
    rw [h1, h2]

theorem of_bit (l : Bytes) (n : Nat) (h : n < (Bin.of l).length) : (Bin.of l)[n] = 48 ∨ (Bin.of l)[n] = 49 := by
  have hp := Bin.of_path l
  unfold Bin.path at hp
  rw [Bool.and_eq_true, List.all_eq_true] at hp
  have := hp.2 _ (List.getElem_mem h)
  unfold Bin.bitByte at this
  rw [Bool.or_eq_true, beq_iff_eq, beq_iff_eq] at this
  rcases this with h | h
  · exact .inl (UInt8.toNat_inj.1 h)
  · exact .inr (UInt8.toNat_inj.1 h)

/-- Behind a common front, a 1 is not followed by a 0. -/
theorem bit_mono {p a b : Bytes} (ha : begins p a = true) (hb : begins p b = true) (hla : p.length < a.length) (hlb : p.length < b.length) (h : ¬ b < a) (h1 : a[p.length] = 49) : b[p.length] ≠ 48 := by
  intro h0
  apply h
  unfold begins at ha hb
  rw [beq_iff_eq] at ha hb
  have ea : a = p ++ (49 :: a.drop (p.length + 1)) := by
    have := List.take_append_drop p.length a
    rw [List.drop_eq_getElem_cons hla, ha, h1] at this
    exact this.symm
  have eb : b = p ++ (48 :: b.drop (p.length + 1)) := by
    have := List.take_append_drop p.length b
    rw [List.drop_eq_getElem_cons hlb, hb, h0] at this
    exact this.symm
  rw [ea, eb]
  refine (Bin.append_lt rfl).2 (.inr ⟨rfl, ?_⟩)
  rw [List.cons_lt_cons_iff]
  exact .inl (by decide)

theorem R_ge {a b : Bytes} (h : Bin.R a b) : ¬ Bin.of b < Bin.of a := fun k => by
  rcases (Bin.R_iff a b).1 h with h | ⟨h, _⟩
  · exact Bin.bs_lt_irrefl _ (Bin.bs_lt_trans h k)
  · rw [h] at k; exact Bin.bs_lt_irrefl _ k

/-- How many paths at the front have 0 at byte n. -/
def zcount (n : Nat) : List Bytes → Nat
  | [] => 0
  | s :: ss => if s[n]? = some 48 then zcount n ss + 1 else 0
theorem zcount_le (n : Nat) (ss : List Bytes) : zcount n ss ≤ ss.length := by
  induction ss with
  | nil => simp [zcount]
  | cons s ss ih => rw [zcount]; split <;> simp [ih]

theorem und_cons (q : Bytes) (x : Ent) (es : List Ent) : und q (x :: es) = if begins q (Bin.of x.1) = true then x :: und q es else und q es := by
  unfold und
  rw [List.filter_cons]
theorem und_all (q : Bytes) (es : List Ent) (h : ∀ x ∈ es, begins q (Bin.of x.1) = true) : und q es = es := List.filter_eq_self.2 h
theorem und_none (q : Bytes) (es : List Ent) (h : ∀ x ∈ es, begins q (Bin.of x.1) = false) : und q es = [] := List.filter_eq_nil_iff.2 fun x hx => by rw [h x hx]; simp

theorem begins_49 {p a b : Bytes} (hb : begins p b = true) (hla : p.length < a.length) (hlb : p.length < b.length) (h : ¬ b < a) (hbit : b[p.length] = 48 ∨ b[p.length] = 49) (h1 : begins (p ++ [49]) a = true) : begins (p ++ [49]) b = true ∧ begins (p ++ [48]) b = false := by
  rw [begins_snoc p a _ hla, Bool.and_eq_true, beq_iff_eq] at h1
  have := bit_mono h1.1 hb hla hlb h h1.2
  rw [begins_snoc p b _ hlb, begins_snoc p b _ hlb, hb]
  rcases hbit with k | k
  · exact absurd k this
  · rw [k]; exact ⟨rfl, rfl⟩
theorem begins_bit {p a : Bytes} (hb : begins p a = true) (hla : p.length < a.length) (hbit : a[p.length] = 48 ∨ a[p.length] = 49) :
    (a[p.length]? = some 48 ∧ begins (p ++ [48]) a = true ∧ begins (p ++ [49]) a = false) ∨ (a[p.length]? ≠ some 48 ∧ begins (p ++ [49]) a = true ∧ begins (p ++ [48]) a = false) := by
  rw [begins_snoc p a _ hla, begins_snoc p a _ hla, hb, List.getElem?_eq_getElem hla]
  rcases hbit with k | k
  · rw [k]; exact .inl ⟨rfl, rfl, rfl⟩
  · rw [k]; exact .inr ⟨by decide, rfl, rfl⟩

theorem zeros_split (p : Bytes) (hp : p.length < 16) (L : List Ent) (hb : ∀ x ∈ L, begins p (Bin.of x.1) = true) (ho : (L.map (·.1)).Pairwise Bin.R) :
    L.take (zcount p.length (pths L)) = und (p ++ [48]) L ∧ L.drop (zcount p.length (pths L)) = und (p ++ [49]) L := by
  induction L with
  | nil => exact ⟨rfl, rfl⟩
  | cons x L ih =>
    rw [List.map_cons, List.pairwise_cons] at ho
    have hlen : ∀ l : Bytes, p.length < (Bin.of l).length := fun l => by rw [Bin.of_length]; exact hp
    have hx := hb x List.mem_cons_self
    obtain ⟨i1, i2⟩ := ih (fun y hy => hb y (List.mem_cons_of_mem _ hy)) ho.2
    have e : pths (x :: L) = Bin.of x.1 :: pths L := rfl
    rw [e, zcount]
    rcases begins_bit hx (hlen x.1) (of_bit x.1 _ (hlen x.1)) with ⟨h1, h2, h3⟩ | ⟨h1, h2, h3⟩
    · rw [if_pos h1, List.take_succ_cons, List.drop_succ_cons, i1, i2, und_cons, und_cons, if_pos h2, if_neg (by rw [h3]; simp)]
      exact ⟨rfl, rfl⟩
    · rw [if_neg h1, List.take_zero, List.drop_zero]
      have hall : ∀ y ∈ x :: L, begins (p ++ [49]) (Bin.of y.1) = true ∧ begins (p ++ [48]) (Bin.of y.1) = false := by
        intro y hy
        rcases List.mem_cons.1 hy with hy' | hy'
        · rw [hy']; exact ⟨h2, h3⟩
        · exact begins_49 (hb y hy) (hlen x.1) (hlen y.1) (R_ge (ho.1 y.1 (List.mem_map_of_mem hy'))) (of_bit y.1 _ (hlen y.1)) h2
      exact ⟨(und_none _ _ fun y hy => (hall y hy).2).symm, (und_all _ _ fun y hy => (hall y hy).1).symm⟩
theorem und_begins (q : Bytes) (es : List Ent) : ∀ x ∈ und q es, begins q (Bin.of x.1) = true := fun x hx => by
  unfold und at hx
  exact (List.mem_filter.1 hx).2
theorem und_order (q : Bytes) {es : List Ent} (ho : (es.map (·.1)).Pairwise Bin.R) : ((und q es).map (·.1)).Pairwise Bin.R :=
  ho.sublist ((List.filter_sublist).map _)
end Go.Proofs.YtjcockcilkiggaaGreat
/- Proofs on plain lists: the preimages along the path, the root, the first error; the proof of a book holds, also behind a name that is set (Merkle). No program in this text. -/
namespace Go.Proofs.YtjcockcilkiggaaGreat

/-- The preimage i levels above the deepest one, out of the hash below it. -/
def up (n : Bytes) (ss : List Nat) (i m : Nat) : Bytes := if (Bin.of n)[15 - i]? = some 48 then nodeOf m (ss[i]?.getD 0) else nodeOf (ss[i]?.getD 0) m
def climb (n : Bytes) (es : List Ent) (ss : List Nat) : Nat → Bytes
  | 0 => leafOf es
  | i + 1 => up n ss i (Hash.of (climb n es ss i))
def psaid (n : Bytes) (es : List Ent) (ss : List Nat) : List Bytes := (List.range 17).map (climb n es ss)
def proot (n : Bytes) (es : List Ent) (ss : List Nat) : Nat := Hash.of (climb n es ss 16)

/-- A prefix of the path with its last byte inverted. -/
def flipAt (n : Bytes) (k : Nat) : Bytes := (Bin.of n).take k ++ [if (Bin.of n)[k]? = some 49 then 48 else 49]
def sidesOf (es : List Ent) (n : Bytes) : List Nat := (List.range 16).map fun i => prefMark es (flipAt n (15 - i))
theorem sidesOf_length (es : List Ent) (n : Bytes) : (sidesOf es n).length = 16 := by rw [sidesOf, List.length_map, List.length_range]
theorem sidesOf_get (es : List Ent) (n : Bytes) (i : Nat) (h : i < 16) : (sidesOf es n)[i]?.getD 0 = prefMark es (flipAt n (15 - i)) := by
  rw [sidesOf, List.getElem?_map, List.getElem?_range h]
  rfl

theorem take_bit (n : Bytes) (k : Nat) (h : k < 16) : ∃ b, (Bin.of n)[k]? = some b ∧ (b = 48 ∨ b = 49) ∧ (Bin.of n).take (k + 1) = (Bin.of n).take k ++ [b] := by
  have hl : k < (Bin.of n).length := by rw [Bin.of_length]; exact h
  exact ⟨(Bin.of n)[k], List.getElem?_eq_getElem hl, of_bit n k hl, List.take_succ_eq_append_getElem hl⟩

/-- Up the path the proof of a book has the hashes of the book's prefixes. -/
theorem climb_of (es : List Ent) (n : Bytes) (i : Nat) (hi : i ≤ 16) : Hash.of (climb n (at16 es (Bin.of n)) (sidesOf es n) i) = prefMark es ((Bin.of n).take (16 - i)) := by
  induction i with
  | zero =>
    have e : (Bin.of n).take 16 = Bin.of n := List.take_of_length_le (by rw [Bin.of_length]; exact Nat.le_refl _)
    rw [climb, Nat.sub_zero, e, prefMark_leaf es _ (Bin.of_length n)]
  | succ i ih =>
    have ih := ih (by omega)
    obtain ⟨b, hb, hbb, ht⟩ := take_bit n (15 - i) (by omega)
    rw [show 15 - i + 1 = 16 - i by omega] at ht
    rw [show 16 - (i + 1) = 15 - i by omega]
    have hl : ((Bin.of n).take (15 - i)).length < 16 := by rw [List.length_take, Bin.of_length]; omega
    rw [climb, up, sidesOf_get es n i (by omega), ih, ht, prefMark_node es _ hl, hb, flipAt, hb]
    rcases hbb with rfl | rfl
    · rw [if_pos rfl, if_neg (by decide)]
    · rw [if_neg (by decide), if_pos rfl]
theorem proot_of (es : List Ent) (n : Bytes) : proot n (at16 es (Bin.of n)) (sidesOf es n) = prefMark es [] := by
  rw [proot, climb_of es n 16 (Nat.le_refl _), Nat.sub_self, List.take_zero]

/-- The path alone counts of a name. -/
theorem climb_path {a b : Bytes} (h : Bin.of a = Bin.of b) (es : List Ent) (ss : List Nat) (i : Nat) : climb a es ss i = climb b es ss i := by
  induction i with
  | zero => rfl
  | succ i ih => rw [climb, climb, up, up, h, ih]
theorem proot_path {a b : Bytes} (h : Bin.of a = Bin.of b) (es : List Ent) (ss : List Nat) : proot a es ss = proot b es ss := by rw [proot, proot, climb_path h]

/-- The first error of a proof. -/
def sameWay (n : Bytes) (es : List Ent) : Bool := es.all fun x => Bin.of x.1 == Bin.of n
def lowM (ss : List Nat) : Bool := ss.all fun z => decide (z < 2305843009213693951)
def pfault (n : Bytes) (es : List Ent) (ss : List Nat) : Int :=
  if Bin.name n = true then (if fault es = 0 then (if sameWay n es = true then (if ss.length = 16 then (if lowM ss = true then 0 else 3) else 3) else 3) else fault es) else 3
structure PGood (n : Bytes) (es : List Ent) (ss : List Nat) : Prop where
  name : Bin.name n = true
  book : Good es
  way : sameWay n es = true
  len : ss.length = 16
  low : lowM ss = true
theorem pfault_ok (n : Bytes) (es : List Ent) (ss : List Nat) : pfault n es ss = 0 ↔ PGood n es ss := by
  unfold pfault
  by_cases h1 : Bin.name n = true
  · rw [if_pos h1]
    by_cases h2 : fault es = 0
    · rw [if_pos h2]
      by_cases h3 : sameWay n es = true
      · rw [if_pos h3]
        by_cases h4 : ss.length = 16
        · rw [if_pos h4]
          by_cases h5 : lowM ss = true
          · rw [if_pos h5]
            exact ⟨fun _ => ⟨h1, (fault_ok es).1 h2, h3, h4, h5⟩, fun _ => rfl⟩
          · rw [if_neg h5]
            exact ⟨fun h => by simp at h, fun h => absurd h.low h5⟩
        · rw [if_neg h4]
          exact ⟨fun h => by simp at h, fun h => absurd h.len h4⟩
      · rw [if_neg h3]
        exact ⟨fun h => by simp at h, fun h => absurd h.way h3⟩
    · rw [if_neg h2]
      exact ⟨fun h => absurd h h2, fun h => absurd ((fault_ok es).2 h.book) h2⟩
  · rw [if_neg h1]
    exact ⟨fun h => by simp at h, fun h => absurd h.name h1⟩

theorem good_filter {es : List Ent} (h : Good es) (P : Ent → Bool) : Good (es.filter P) :=
  ⟨Nat.le_trans (List.length_filter_le _ _) h.len, fun x hx => h.name x (List.mem_filter.1 hx).1, fun x hx => h.value x (List.mem_filter.1 hx).1, h.order.sublist (List.filter_sublist.map _)⟩
theorem lowM_get {ss : List Nat} (h : lowM ss = true) (i : Nat) (hi : i < ss.length) : ss[i] < 2305843009213693951 := of_decide_eq_true (List.all_eq_true.1 h _ (List.getElem_mem hi))
theorem proofOf_good {es : List Ent} {n : Bytes} (h : Good es) (hn : Bin.name n = true) : PGood n (at16 es (Bin.of n)) (sidesOf es n) := by
  refine ⟨hn, good_filter h _, ?_, sidesOf_length es n, ?_⟩
  · unfold sameWay at16
    rw [List.all_eq_true]
    intro x hx
    exact (List.mem_filter.1 hx).2
  · unfold lowM sidesOf
    rw [List.all_eq_true]
    intro z hz
    obtain ⟨i, _, rfl⟩ := List.mem_map.1 hz
    exact decide_eq_true (pm_lt _ _ _)

theorem stands_filter (P : Bytes → Bool) (es : List Ent) (m : Bytes) : stands (es.filter fun x => P x.1) m = if P m = true then stands es m else none := by
  induction es with
  | nil => simp [stands]
  | cons x es ih =>
    rw [List.filter_cons]
    by_cases h : P x.1 = true
    · rw [if_pos h, stands, stands, ih]
      by_cases e : x.1 = m
      · rw [if_pos e, if_pos e, if_pos (by rw [← e]; exact h)]
      · rw [if_neg e, if_neg e]
    · rw [if_neg h, ih, stands]
      by_cases e : x.1 = m
      · rw [if_neg (by rw [← e]; exact h), if_neg (by rw [← e]; exact h)]
      · rw [if_neg e]
theorem stands_at16 (es : List Ent) (n : Bytes) : stands (at16 es (Bin.of n)) n = stands es n := by
  have := stands_filter (fun m => Bin.of m == Bin.of n) es n
  rw [if_pos (beq_iff_eq.2 rfl)] at this
  exact this
theorem at16_setTo (es : List Ent) (n v : Bytes) : at16 (setTo n v es) (Bin.of n) = setTo n v (at16 es (Bin.of n)) := by
  have f1 := stands_filter (fun m => Bin.of m == Bin.of n) (setTo n v es)
  have f2 := stands_filter (fun m => Bin.of m == Bin.of n) es
  refine book_ext ((setTo_order n v es).sublist (List.filter_sublist.map _)) (setTo_order n v _) fun m => ?_
  rw [stands_setTo]
  refine (f1 m).trans ?_
  refine Eq.trans ?_ (congrArg (fun z => if m = n then some v else z) (f2 m).symm)
  rw [stands_setTo]
  by_cases e : m = n
  · subst e
    rw [if_pos (beq_iff_eq.2 rfl), if_pos rfl, if_pos rfl]
  · rw [if_neg e, if_neg e]
theorem und_setTo (es : List Ent) (n v q : Bytes) (ho : (es.map (·.1)).Pairwise Bin.R) (h : begins q (Bin.of n) = false) : und q (setTo n v es) = und q es := by
  have f1 := stands_filter (fun m => begins q (Bin.of m)) (setTo n v es)
  have f2 := stands_filter (fun m => begins q (Bin.of m)) es
  refine book_ext ((setTo_order n v es).sublist (List.filter_sublist.map _)) (ho.sublist (List.filter_sublist.map _)) fun m => ?_
  refine (f1 m).trans (Eq.trans ?_ (f2 m).symm)
  rw [stands_setTo]
  by_cases e : m = n
  · subst e
    rw [if_neg (by rw [h]; simp), if_neg (by rw [h]; simp)]
  · rw [if_neg e]
theorem prefMark_setTo (es : List Ent) (n v q : Bytes) (ho : (es.map (·.1)).Pairwise Bin.R) (h : begins q (Bin.of n) = false) : prefMark (setTo n v es) q = prefMark es q := by
  rw [← prefMark_und, und_setTo es n v q ho h, prefMark_und]
theorem flip_not (n : Bytes) (k : Nat) (h : k < 16) : begins (flipAt n k) (Bin.of n) = false := by
  obtain ⟨b, hb, hbb, ht⟩ := take_bit n k h
  have hl : (flipAt n k).length = k + 1 := by rw [flipAt, List.length_append, List.length_singleton, List.length_take, Bin.of_length]; omega
  rw [begins, hl, ht, flipAt, hb, beq_eq_false_iff_ne]
  intro e
  have e2 := List.append_cancel_left e
  injection e2 with e2
  rcases hbb with rfl | rfl
  · rw [if_neg (by decide)] at e2
    exact absurd e2 (by decide)
  · rw [if_pos rfl] at e2
    exact absurd e2 (by decide)
theorem sidesOf_setTo (es : List Ent) (n v : Bytes) (ho : (es.map (·.1)).Pairwise Bin.R) : sidesOf (setTo n v es) n = sidesOf es n := by
  unfold sidesOf
  apply List.map_congr_left
  intro i hi
  have := List.mem_range.1 hi
  exact prefMark_setTo es n v _ ho (flip_not n _ (by omega))
/-- The root behind a name that is set, out of the proof alone. -/
theorem proot_setTo (es : List Ent) (n v : Bytes) (ho : (es.map (·.1)).Pairwise Bin.R) : proot n (setTo n v (at16 es (Bin.of n))) (sidesOf es n) = prefMark (setTo n v es) [] := by
  rw [← at16_setTo es n v, ← sidesOf_setTo es n v ho, proot_of]
end Go.Proofs.YtjcockcilkiggaaGreat
