/- Collisions on plain lists: the last pair of different strings of two lists; two proofs of one name with the same root that tell different things hold a collision (Merkle). No program in this text. -/
import Derived.Test.YtmmmolbejfdamaaLeaves
namespace Go.Proofs.Ytmmmolbejfdamaa

/-- The search, from the front of the lists turned round. -/
def srch : List Bytes → List Bytes → Bytes × Bytes × Int
  | x :: xs, y :: ys => if x = y then srch xs ys else if Hash.of x = Hash.of y then (x, y, 0) else ([], [], 5)
  | _, _ => ([], [], 5)
def clashOf (a b : List Bytes) : Bytes × Bytes × Int :=
  if a.length = 0 ∨ b.length ≠ a.length then ([], [], 3)
  else if Hash.of (a.getLast?.getD []) = Hash.of (b.getLast?.getD []) then srch a.reverse b.reverse else ([], [], 8)

/-- What is returned is a collision. -/
theorem srch_alike : ∀ (a b : List Bytes), (srch a b).2.2 = 0 → (srch a b).1 ≠ (srch a b).2.1 ∧ Hash.of (srch a b).1 = Hash.of (srch a b).2.1
  | x :: xs, y :: ys, h => by
    rw [srch] at h ⊢
    by_cases e : x = y
    · rw [if_pos e] at h ⊢
      exact srch_alike xs ys h
    · rw [if_neg e] at h ⊢
      by_cases k : Hash.of x = Hash.of y
      · rw [if_pos k]
        exact ⟨e, k⟩
      · rw [if_neg k] at h
        simp at h
  | [], _, h => by simp [srch] at h
  | _ :: _, [], h => by simp [srch] at h
theorem srch_no : ∀ (a b : List Bytes), (srch a b).2.2 ≠ 0 → (srch a b).1 = [] ∧ (srch a b).2.1 = []
  | x :: xs, y :: ys, h => by
    rw [srch] at h ⊢
    by_cases e : x = y
    · rw [if_pos e] at h ⊢
      exact srch_no xs ys h
    · rw [if_neg e] at h ⊢
      by_cases k : Hash.of x = Hash.of y
      · rw [if_pos k] at h
        exact absurd rfl h
      · rw [if_neg k]
        exact ⟨rfl, rfl⟩
  | [], _, _ => by simp [srch]
  | _ :: _, [], _ => by simp [srch]
theorem clashOf_alike (a b : List Bytes) (h : (clashOf a b).2.2 = 0) : (clashOf a b).1 ≠ (clashOf a b).2.1 ∧ Hash.of (clashOf a b).1 = Hash.of (clashOf a b).2.1 := by
  unfold clashOf at h ⊢
  by_cases h1 : a.length = 0 ∨ b.length ≠ a.length
  · rw [if_pos h1] at h; simp at h
  · rw [if_neg h1] at h ⊢
    by_cases h2 : Hash.of (a.getLast?.getD []) = Hash.of (b.getLast?.getD [])
    · rw [if_pos h2] at h ⊢
      exact srch_alike _ _ h
    · rw [if_neg h2] at h; simp at h
theorem clashOf_no (a b : List Bytes) (h : (clashOf a b).2.2 ≠ 0) : (clashOf a b).1 = [] ∧ (clashOf a b).2.1 = [] := by
  unfold clashOf at h ⊢
  by_cases h1 : a.length = 0 ∨ b.length ≠ a.length
  · rw [if_pos h1]; exact ⟨rfl, rfl⟩
  · rw [if_neg h1] at h ⊢
    by_cases h2 : Hash.of (a.getLast?.getD []) = Hash.of (b.getLast?.getD [])
    · rw [if_pos h2] at h ⊢
      exact srch_no _ _ h
    · rw [if_neg h2]; exact ⟨rfl, rfl⟩

theorem saidP_inj {k j : UInt8} {a b c d : Nat} (ha : a < 18446744073709551616) (hb : b < 18446744073709551616) (hc : c < 18446744073709551616) (hd : d < 18446744073709551616) (h : said k a b = said j c d) : a = c ∧ b = d := by
  unfold said at h
  injection h with h1 h2
  have h3 := List.append_inj h2 (by simp [be8])
  exact ⟨be8_inj ha hc h3.1, be8_inj hb hd h3.2⟩
theorem nodeOf_inj {a b c d : Nat} (ha : a < 18446744073709551616) (hb : b < 18446744073709551616) (hc : c < 18446744073709551616) (hd : d < 18446744073709551616) (h : nodeOf a b = nodeOf c d) : a = c ∧ b = d := by
  have hl : ∀ x y, [0] ≠ said 2 x y := fun x y e => by
    have := congrArg List.length e
    simp [said, be8] at this
  unfold nodeOf at h
  by_cases h1 : a = nil0 ∧ b = nil0
  · rw [if_pos h1] at h
    by_cases h2 : c = nil0 ∧ d = nil0
    · exact ⟨h1.1.trans h2.1.symm, h1.2.trans h2.2.symm⟩
    · rw [if_neg h2] at h
      exact absurd h (hl c d)
  · rw [if_neg h1] at h
    by_cases h2 : c = nil0 ∧ d = nil0
    · rw [if_pos h2] at h
      exact absurd h.symm (hl a b)
    · rw [if_neg h2] at h
      exact saidP_inj ha hb hc hd h
theorem flat_inj : ∀ (a b : List Ent), (a.flatMap fun x => [x.1, x.2]) = (b.flatMap fun x => [x.1, x.2]) → a = b
  | [], [], _ => rfl
  | [], y :: ys, h => by simp at h
  | x :: xs, [], h => by simp at h
  | x :: xs, y :: ys, h => by
    simp only [List.flatMap_cons, List.cons_append, List.nil_append, List.cons.injEq] at h
    obtain ⟨h1, h2, h3⟩ := h
    rw [flat_inj xs ys h3, Prod.ext h1 h2]
theorem leafBytes_enc (es : List Ent) : leafBytes es = Wire.enc (es.flatMap fun x => [x.1, x.2]) := by
  induction es with
  | nil => rfl
  | cons x es ih =>
    have e : leafBytes (x :: es) = Wire.enc [x.1, x.2] ++ leafBytes es := by simp [leafBytes]
    rw [e, ih, List.flatMap_cons, Wire.enc_append]
theorem leafBytes_short (l : List Ent) (hl : ∀ x ∈ l, x.1.length + x.2.length ≤ 596) : (leafBytes l).length ≤ l.length * 600 := by
  induction l with
  | nil => simp [leafBytes]
  | cons x l ih =>
    have := ih fun y hy => hl y (List.mem_cons_of_mem _ hy)
    have h1 := hl x List.mem_cons_self
    have e : leafBytes (x :: l) = Wire.enc [x.1, x.2] ++ leafBytes l := by simp [leafBytes]
    rw [e, List.length_append, Wire.enc_length, List.length_cons]
    simp only [Wire.encLen_cons, Wire.encLen_nil]
    omega
theorem leafOf_inj {a b : List Ent} (hb : Good b) (h : leafOf a = leafOf b) : a = b := by
  unfold leafOf at h
  by_cases h1 : a = []
  · rw [if_pos h1] at h
    by_cases h2 : b = []
    · rw [h1, h2]
    · rw [if_neg h2] at h
      injection h with h _
      exact absurd h (by decide)
  · rw [if_neg h1] at h
    by_cases h2 : b = []
    · rw [if_pos h2] at h
      injection h with h _
      exact absurd h (by decide)
    · rw [if_neg h2] at h
      injection h with _ h
      have hs := leafBytes_short b fun x hx => by
        have q1 := (Bin.name_len (hb.name x hx)).2
        have q2 := hb.value x hx
        omega
      have hl := hb.len
      rw [leafBytes_enc] at h hs
      rw [leafBytes_enc b] at h
      exact flat_inj a b (Wire.enc_inj _ _ h (by omega))

/-- The first k + 1 strings, turned round. -/
def downTo (c : Nat → Bytes) : Nat → List Bytes
  | 0 => [c 0]
  | k + 1 => c (k + 1) :: downTo c k
theorem downTo_range (c : Nat → Bytes) (k : Nat) : ((List.range (k + 1)).map c).reverse = downTo c k := by
  induction k with
  | zero => rfl
  | succ k ih => rw [List.range_succ, List.map_append, List.reverse_append, ih]; rfl
theorem srch_down (c c' : Nat → Bytes) (k : Nat) (hk : Hash.of (c k) = Hash.of (c' k)) (hs : ∀ i, i < k → c (i + 1) = c' (i + 1) → Hash.of (c i) = Hash.of (c' i)) (hd : ∃ i, i ≤ k ∧ c i ≠ c' i) : (srch (downTo c k) (downTo c' k)).2.2 = 0 := by
  induction k with
  | zero =>
    obtain ⟨i, hi, hne⟩ := hd
    obtain rfl : i = 0 := by omega
    rw [downTo, downTo, srch, if_neg hne, if_pos hk]
  | succ k ih =>
    rw [downTo, downTo, srch]
    by_cases e : c (k + 1) = c' (k + 1)
    · rw [if_pos e]
      refine ih (hs k (by omega) e) (fun i hi => hs i (by omega)) ?_
      obtain ⟨i, hi, hne⟩ := hd
      rcases Nat.lt_or_ge i (k + 1) with h | h
      · exact ⟨i, by omega, hne⟩
      · obtain rfl : i = k + 1 := by omega
        exact absurd e hne
    · rw [if_neg e, if_pos hk]

theorem psaid_length (n : Bytes) (es : List Ent) (ss : List Nat) : (psaid n es ss).length = 17 := by rw [psaid, List.length_map, List.length_range]
theorem psaid_last (n : Bytes) (es : List Ent) (ss : List Nat) : (psaid n es ss).getLast?.getD [] = climb n es ss 16 := by
  rw [psaid, List.range_succ, List.map_append, List.map_cons, List.map_nil, List.getLast?_concat, Option.getD_some]

/-- Two proofs of one name with the same root that tell different things hold a collision. -/
theorem binds (n : Bytes) (es es' : List Ent) (ss ss' : List Nat) (hp : PGood n es ss) (hq : PGood n es' ss') (hr : proot n es ss = proot n es' ss') (hne : stands es n ≠ stands es' n) : (clashOf (psaid n es ss) (psaid n es' ss')).2.2 = 0 := by
  rw [proot, proot] at hr
  unfold clashOf
  rw [if_neg (by rw [psaid_length, psaid_length]; simp), psaid_last, psaid_last, if_pos hr]
  have e1 : (psaid n es ss).reverse = downTo (climb n es ss) 16 := downTo_range _ 16
  have e2 : (psaid n es' ss').reverse = downTo (climb n es' ss') 16 := downTo_range _ 16
  rw [e1, e2]
  refine srch_down _ _ 16 hr (fun i hi he => ?_) ⟨0, by omega, fun e => hne ?_⟩
  · have b1 : ∀ l, Hash.of l < 18446744073709551616 := fun l => Nat.lt_trans (Hash.of_lt l) (by decide)
    have b2 : ∀ ss : List Nat, ss.length = 16 → lowM ss = true → ss[i]?.getD 0 < 18446744073709551616 := fun ss hl hw => by
      rw [List.getElem?_eq_getElem (show i < ss.length by omega), Option.getD_some]
      exact Nat.lt_trans (lowM_get hw i (by omega)) (by decide)
    rw [climb, climb, up, up] at he
    by_cases hb : (Bin.of n)[15 - i]? = some 48
    · rw [if_pos hb, if_pos hb] at he
      exact (nodeOf_inj (b1 _) (b2 ss hp.len hp.low) (b1 _) (b2 ss' hq.len hq.low) he).1
    · rw [if_neg hb, if_neg hb] at he
      exact (nodeOf_inj (b2 ss hp.len hp.low) (b1 _) (b2 ss' hq.len hq.low) (b1 _) he).2
  · rw [leafOf_inj hq.book e]
end Go.Proofs.Ytmmmolbejfdamaa
/- The last index at which two lists of strings differ, and what the search of a collision makes of it; a string of a row. No program in this text. -/
namespace Go.Proofs.Ytmmmolbejfdamaa
open Go.RowKit

theorem Row.strC {w : World} {A : Option Addr} {ss : List Bytes} (h : Row w A (scells ss)) (k : Nat) (hk : k < ss.length) : ∃ g off, A = some ⟨g, off, none⟩ ∧ w.cell? ⟨g, off + k, none⟩ = some (.string (S ss[k])) := by
  obtain ⟨g, off, e1, hc⟩ := h (by rw [scells_length]; omega)
  refine ⟨g, off, e1, ?_⟩
  rw [hc k (by rw [scells_length]; exact hk)]
  simp [scells]
theorem Row.strQ {w : World} {A : Option Addr} {ss : List Bytes} (h : Row w A (scells ss)) (k : Nat) (s : Bytes) (hk : ss[k]? = some s) : ∃ g off, A = some ⟨g, off, none⟩ ∧ w.cell? ⟨g, off + k, none⟩ = some (.string (S s)) := by
  obtain ⟨h1, h2⟩ := List.getElem?_eq_some_iff.1 hk
  obtain ⟨g, off, e, hc⟩ := h.strC k h1
  exact ⟨g, off, e, by rw [hc, h2]⟩
theorem rev_drop (a : List Bytes) (n i : Nat) (hn : a.length = n + 1) (hi : i ≤ n) : a.reverse.drop i = a[n - i]'(by omega) :: a.reverse.drop (i + 1) := by
  rw [List.drop_eq_getElem_cons (by rw [List.length_reverse]; omega), List.getElem_reverse]
  congr 2
  omega
theorem last_at (a : List Bytes) (n : Nat) (hn : a.length = n + 1) : a.getLast?.getD [] = a[n]'(by omega) := by
  rw [List.getLast?_eq_getElem?, List.getElem?_eq_getElem (by omega), Option.getD_some]
  congr 1
  omega

theorem srch_mem : ∀ (a b : List Bytes), (srch a b).2.2 = 0 → (srch a b).1 ∈ a ∧ (srch a b).2.1 ∈ b
  | x :: xs, y :: ys, h => by
    rw [srch] at h ⊢
    by_cases e : x = y
    · rw [if_pos e] at h ⊢
      obtain ⟨h1, h2⟩ := srch_mem xs ys h
      exact ⟨List.mem_cons_of_mem _ h1, List.mem_cons_of_mem _ h2⟩
    · rw [if_neg e] at h ⊢
      by_cases k : Hash.of x = Hash.of y
      · rw [if_pos k]
        exact ⟨List.mem_cons_self, List.mem_cons_self⟩
      · rw [if_neg k] at h
        simp at h
  | [], _, h => by simp [srch] at h
  | _ :: _, [], h => by simp [srch] at h
/-- What is returned is short where all strings are. -/
theorem clashOf_small {a b : List Bytes} {M : Nat} (ha : ∀ s ∈ a, s.length ≤ M) (hb : ∀ s ∈ b, s.length ≤ M) : (clashOf a b).1.length ≤ M ∧ (clashOf a b).2.1.length ≤ M := by
  by_cases h : (clashOf a b).2.2 = 0
  · unfold clashOf at h ⊢
    by_cases h1 : a.length = 0 ∨ b.length ≠ a.length
    · rw [if_pos h1] at h; simp at h
    · rw [if_neg h1] at h ⊢
      by_cases h2 : Hash.of (a.getLast?.getD []) = Hash.of (b.getLast?.getD [])
      · rw [if_pos h2] at h ⊢
        obtain ⟨e1, e2⟩ := srch_mem _ _ h
        exact ⟨ha _ (List.mem_reverse.1 e1), hb _ (List.mem_reverse.1 e2)⟩
      · rw [if_neg h2] at h; simp at h
  · obtain ⟨e1, e2⟩ := clashOf_no a b h
    rw [e1, e2]
    simp

/-- A collision. -/
def alikeP (s t : Bytes) : Prop := s ≠ t ∧ Hash.of s = Hash.of t
instance (s t : Bytes) : Decidable (alikeP s t) := inferInstanceAs (Decidable (_ ∧ _))
/-- The last index below k at which the lists differ, or -1. -/
def lu (a b : List Bytes) : Nat → Int
  | 0 => -1
  | k + 1 => if a[k]?.getD [] = b[k]?.getD [] then lu a b k else k

theorem lu_srch (a b : List Bytes) (n : Nat) (ha : a.length = n) (hb : b.length = n) : ∀ k, k ≤ n →
    (lu a b k = -1 ∧ srch (a.reverse.drop (n - k)) (b.reverse.drop (n - k)) = ([], [], 5)) ∨
    ∃ (j : Nat) (s t : Bytes), j < n ∧ a[j]? = some s ∧ b[j]? = some t ∧ lu a b k = (j : Int) ∧ srch (a.reverse.drop (n - k)) (b.reverse.drop (n - k)) = if alikeP s t then (s, t, 0) else ([], [], 5)
  | 0, _ => by
    refine .inl ⟨rfl, ?_⟩
    rw [List.drop_eq_nil_of_le (by rw [List.length_reverse]; omega)]
    simp [srch]
  | k + 1, hk => by
    obtain ⟨n', rfl⟩ : ∃ n', n = n' + 1 := ⟨n - 1, by omega⟩
    have ea := rev_drop a n' (n' - k) ha (by omega)
    have eb := rev_drop b n' (n' - k) hb (by omega)
    have e1 : n' + 1 - (k + 1) = n' - k := by omega
    have e2 : n' - (n' - k) = k := by omega
    have e3 : n' - k + 1 = n' + 1 - k := by omega
    simp only [e2, e3] at ea eb
    rw [e1, ea, eb, srch, lu]
    rw [List.getElem?_eq_getElem (show k < a.length by omega), List.getElem?_eq_getElem (show k < b.length by omega), Option.getD_some, Option.getD_some]
    by_cases he : a[k]'(by omega) = b[k]'(by omega)
    · rw [if_pos he, if_pos he]
      exact lu_srch a b (n' + 1) ha hb k (by omega)
    · rw [if_neg he, if_neg he]
      refine .inr ⟨k, _, _, by omega, List.getElem?_eq_getElem (by omega), List.getElem?_eq_getElem (by omega), rfl, ?_⟩
      by_cases hh : Hash.of (a[k]'(by omega)) = Hash.of (b[k]'(by omega))
      · rw [if_pos hh, if_pos (show alikeP _ _ from ⟨he, hh⟩)]
      · rw [if_neg hh, if_neg (show ¬ alikeP _ _ from fun h => hh h.2)]
end Go.Proofs.Ytmmmolbejfdamaa
