/- The entries under a prefix, on plain lists: those with 0 behind it come first, those with 1 behind them; the hash of a prefix is told by the entries under it. No program in this text. -/
import Derived.Test.YteclnibbgdbjfaaUnd
import Derived.Test.YteclnibbgdbjfaaLeaves
namespace Go.Proofs.Yteclnibbgdbjfaa

theorem at16_und (es : List Ent) (q p : Bytes) (h : p.take q.length = q) : at16 (und q es) p = at16 es p := by
  unfold at16 und
  rw [List.filter_filter]
  apply List.filter_congr
  intro x _
  by_cases e : Bin.of x.1 = p
  · rw [e, begins, h]; simp
  · rw [beq_eq_false_iff_ne.2 e, Bool.false_and]
theorem pm_und (es : List Ent) (q : Bytes) (k : Nat) (p : Bytes) (hl : q.length ≤ p.length) (h : p.take q.length = q) : pm (und q es) k p = pm es k p := by
  induction k generalizing p with
  | zero =>
    show Hash.of (leafOf (at16 (und q es) p)) = Hash.of (leafOf (at16 es p))
    rw [at16_und es q p h]
  | succ k ih =>
    have e : ∀ c : UInt8, pm (und q es) k (p ++ [c]) = pm es k (p ++ [c]) := fun c => ih _ (by rw [List.length_append]; omega) (by rw [List.take_append_of_le_length hl]; exact h)
    rw [pm_succ, pm_succ, e, e]
theorem prefMark_und (es : List Ent) (q : Bytes) : prefMark (und q es) q = prefMark es q := pm_und es q _ q (Nat.le_refl _) List.take_length

theorem begins_snoc (p a : Bytes) (c : UInt8) (h : p.length < a.length) : begins (p ++ [c]) a = (begins p a && a[p.length] == c) := by
  unfold begins
  rw [List.length_append, List.length_singleton, List.take_succ_eq_append_getElem h, Bool.eq_iff_iff, Bool.and_eq_true, beq_iff_eq, beq_iff_eq, beq_iff_eq]
  constructor
  · intro e
    obtain ⟨h1, h2⟩ := List.append_inj' e rfl
    exact ⟨h1, by simpa using h2⟩
  · rintro ⟨h1, h2⟩
    rw [h1, h2]

theorem of_bit (l : Bytes) (n : Nat) (h : n < (Bin.of l).length) : (Bin.of l)[n] = 48 ∨ (Bin.of l)[n] = 49 := by
  have hp := Bin.of_path l
  unfold Bin.path at hp
  rw [Bool.and_eq_true, List.all_eq_true] at hp
  have := hp.2 _ (List.getElem_mem h)
  unfold Bin.bitByte at this
  rw [Bool.or_eq_true, beq_iff_eq, beq_iff_eq] at this
  rcases this with h | h
  · exact .inl (UInt8.toNat_inj.1 h)
  · exact .inr (UInt8.toNat_inj.1 h)

/-- Behind a common front, a 1 is not followed by a 0. -/
theorem bit_mono {p a b : Bytes} (ha : begins p a = true) (hb : begins p b = true) (hla : p.length < a.length) (hlb : p.length < b.length) (h : ¬ b < a) (h1 : a[p.length] = 49) : b[p.length] ≠ 48 := by
  intro h0
  apply h
  unfold begins at ha hb
  rw [beq_iff_eq] at ha hb
  have ea : a = p ++ (49 :: a.drop (p.length + 1)) := by
    have := List.take_append_drop p.length a
    rw [List.drop_eq_getElem_cons hla, ha, h1] at this
    exact this.symm
  have eb : b = p ++ (48 :: b.drop (p.length + 1)) := by
    have := List.take_append_drop p.length b
    rw [List.drop_eq_getElem_cons hlb, hb, h0] at this
    exact this.symm
  rw [ea, eb]
  refine (Bin.append_lt rfl).2 (.inr ⟨rfl, ?_⟩)
  rw [List.cons_lt_cons_iff]
  exact .inl (by decide)

theorem R_ge {a b : Bytes} (h : Bin.R a b) : ¬ Bin.of b < Bin.of a := fun k => by
  rcases (Bin.R_iff a b).1 h with h | ⟨h, _⟩
  · exact Bin.bs_lt_irrefl _ (Bin.bs_lt_trans h k)
  · rw [h] at k; exact Bin.bs_lt_irrefl _ k

/-- How many paths at the front have 0 at byte n. -/
def zcount (n : Nat) : List Bytes → Nat
  | [] => 0
  | s :: ss => if s[n]? = some 48 then zcount n ss + 1 else 0
theorem zcount_le (n : Nat) (ss : List Bytes) : zcount n ss ≤ ss.length := by
  induction ss with
  | nil => simp [zcount]
  | cons s ss ih => rw [zcount]; split <;> simp [ih]

theorem und_cons (q : Bytes) (x : Ent) (es : List Ent) : und q (x :: es) = if begins q (Bin.of x.1) = true then x :: und q es else und q es := by
  unfold und
  rw [List.filter_cons]
theorem und_all (q : Bytes) (es : List Ent) (h : ∀ x ∈ es, begins q (Bin.of x.1) = true) : und q es = es := List.filter_eq_self.2 h
theorem und_none (q : Bytes) (es : List Ent) (h : ∀ x ∈ es, begins q (Bin.of x.1) = false) : und q es = [] := List.filter_eq_nil_iff.2 fun x hx => by rw [h x hx]; simp

theorem begins_49 {p a b : Bytes} (hb : begins p b = true) (hla : p.length < a.length) (hlb : p.length < b.length) (h : ¬ b < a) (hbit : b[p.length] = 48 ∨ b[p.length] = 49) (h1 : begins (p ++ [49]) a = true) : begins (p ++ [49]) b = true ∧ begins (p ++ [48]) b = false := by
  rw [begins_snoc p a _ hla, Bool.and_eq_true, beq_iff_eq] at h1
  have := bit_mono h1.1 hb hla hlb h h1.2
  rw [begins_snoc p b _ hlb, begins_snoc p b _ hlb, hb]
  rcases hbit with k | k
  · exact absurd k this
  · rw [k]; exact ⟨rfl, rfl⟩
theorem begins_bit {p a : Bytes} (hb : begins p a = true) (hla : p.length < a.length) (hbit : a[p.length] = 48 ∨ a[p.length] = 49) :
    (a[p.length]? = some 48 ∧ begins (p ++ [48]) a = true ∧ begins (p ++ [49]) a = false) ∨ (a[p.length]? ≠ some 48 ∧ begins (p ++ [49]) a = true ∧ begins (p ++ [48]) a = false) := by
  rw [begins_snoc p a _ hla, begins_snoc p a _ hla, hb, List.getElem?_eq_getElem hla]
  rcases hbit with k | k
  · rw [k]; exact .inl ⟨rfl, rfl, rfl⟩
  · rw [k]; exact .inr ⟨by decide, rfl, rfl⟩

theorem zeros_split (p : Bytes) (hp : p.length < 16) (L : List Ent) (hb : ∀ x ∈ L, begins p (Bin.of x.1) = true) (ho : (L.map (·.1)).Pairwise Bin.R) :
    L.take (zcount p.length (pths L)) = und (p ++ [48]) L ∧ L.drop (zcount p.length (pths L)) = und (p ++ [49]) L := by
  induction L with
  | nil => exact ⟨rfl, rfl⟩
  | cons x L ih =>
    rw [List.map_cons, List.pairwise_cons] at ho
    have hlen : ∀ l : Bytes, p.length < (Bin.of l).length := fun l => by rw [Bin.of_length]; exact hp
    have hx := hb x List.mem_cons_self
    obtain ⟨i1, i2⟩ := ih (fun y hy => hb y (List.mem_cons_of_mem _ hy)) ho.2
    have e : pths (x :: L) = Bin.of x.1 :: pths L := rfl
    rw [e, zcount]
    rcases begins_bit hx (hlen x.1) (of_bit x.1 _ (hlen x.1)) with ⟨h1, h2, h3⟩ | ⟨h1, h2, h3⟩
    · rw [if_pos h1, List.take_succ_cons, List.drop_succ_cons, i1, i2, und_cons, und_cons, if_pos h2, if_neg (by rw [h3]; simp)]
      exact ⟨rfl, rfl⟩
    · rw [if_neg h1, List.take_zero, List.drop_zero]
      have hall : ∀ y ∈ x :: L, begins (p ++ [49]) (Bin.of y.1) = true ∧ begins (p ++ [48]) (Bin.of y.1) = false := by
        intro y hy
        rcases List.mem_cons.1 hy with hy' | hy'
        · rw [hy']; exact ⟨h2, h3⟩
        · exact begins_49 (hb y hy) (hlen x.1) (hlen y.1) (R_ge (ho.1 y.1 (List.mem_map_of_mem hy'))) (of_bit y.1 _ (hlen y.1)) h2
      exact ⟨(und_none _ _ fun y hy => (hall y hy).2).symm, (und_all _ _ fun y hy => (hall y hy).1).symm⟩
theorem und_begins (q : Bytes) (es : List Ent) : ∀ x ∈ und q es, begins q (Bin.of x.1) = true := fun x hx => by
  unfold und at hx
  exact (List.mem_filter.1 hx).2
theorem und_order (q : Bytes) {es : List Ent} (ho : (es.map (·.1)).Pairwise Bin.R) : ((und q es).map (·.1)).Pairwise Bin.R :=
  ho.sublist ((List.filter_sublist).map _)
end Go.Proofs.Yteclnibbgdbjfaa
