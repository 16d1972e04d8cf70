/- The order of names: by path, then byte by byte; the sorted list of distinct names, and that it is the only one. No program in this text. -/
import Derived.Test.YteclnibbgdbjfaaBin
import Derived.Lib.SlicesCompact
namespace Go.Proofs.Yteclnibbgdbjfaa.Bin
open Go.Lib

abbrev Bs := List UInt8

theorem bs_lt_irrefl (a : Bs) : ¬ a < a := List.lt_irrefl a
theorem bs_lt_trans {a b c : Bs} (h : a < b) (k : b < c) : a < c := List.lt_trans h k
theorem bs_le_of_not {a b : Bs} (h : ¬ b < a) : a ≤ b := h
theorem bs_lt_of_le_ne {a b : Bs} (h : a ≤ b) (hn : a ≠ b) : a < b := by
  rcases Classical.em (a < b) with k | k
  · exact k
  · exact absurd (List.le_antisymm h k) hn

/-- What is sorted by: the path, then the name. -/
def key (l : Bs) : Bs := of l ++ l
theorem key_drop (l : Bs) : (key l).drop 16 = l := by
  unfold key
  rw [List.drop_append, of_length]
  simp [List.drop_eq_nil_of_le, of_length]
theorem key_inj {a b : Bs} (h : key a = key b) : a = b := by rw [← key_drop a, h, key_drop]
theorem key_length (l : Bs) : (key l).length = 16 + l.length := by simp [key, of_length]

/-- Ahead. -/
def R (a b : Bs) : Prop := key a < key b
instance (a b : Bs) : Decidable (R a b) := inferInstanceAs (Decidable (key a < key b))
theorem R.irrefl (a : Bs) : ¬ R a a := bs_lt_irrefl _
theorem R.trans {a b c : Bs} (h : R a b) (k : R b c) : R a c := bs_lt_trans h k
theorem R.asymm {a b : Bs} (h : R a b) (k : R b a) : False := R.irrefl a (h.trans k)

theorem append_lt {p q a b : Bs} (h : p.length = q.length) : p ++ a < q ++ b ↔ p < q ∨ p = q ∧ a < b := by
  induction p generalizing q with
  | nil =>
    obtain rfl : q = [] := by cases q <;> simp_all
    simp
  | cons x p ih =>
    cases q with
    | nil => simp at h
    | cons y q =>
      simp only [List.length_cons, Nat.add_right_cancel_iff] at h
      simp only [List.cons_append, List.cons_lt_cons_iff, ih h, List.cons.injEq]
      constructor
      · rintro (h | ⟨h, h' | h'⟩)
        · exact .inl (.inl h)
        · exact .inl (.inr ⟨h, h'⟩)
        · exact .inr ⟨⟨h, h'.1⟩, h'.2⟩
      · rintro ((h | h) | ⟨⟨h, h'⟩, h''⟩)
        · exact .inl h
        · exact .inr ⟨h.1, .inl h.2⟩
        · exact .inr ⟨h, .inr ⟨h', h''⟩⟩
theorem R_iff (a b : Bs) : R a b ↔ of a < of b ∨ of a = of b ∧ a < b := append_lt (by rw [of_length, of_length])

/-- Of a sorted row what is kept of its first places. -/
theorem compact_upto (d : Array Bs) (hd : ∀ i j, i ≤ j → j < d.size → d[i]! ≤ d[j]!) (m : Nat) (hm : m < d.size) :
    (compactUpTo d (m + 1)).Pairwise (· < ·) ∧ (∀ x ∈ compactUpTo d (m + 1), x ≤ d[m]!) ∧ ∀ x, x ∈ compactUpTo d (m + 1) ↔ ∃ j, j ≤ m ∧ d[j]! = x := by
  induction m with
  | zero =>
    have e : compactUpTo d (0 + 1) = [d[0]!] := by
      rw [compactUpTo_succ, keeps_lt_one d 0 (by omega)]
      rfl
    rw [e]
    refine ⟨List.pairwise_singleton _ _, fun x hx => ?_, fun x => ?_⟩
    · rw [List.mem_singleton.1 hx]; exact List.le_refl _
    · rw [List.mem_singleton]
      constructor
      · rintro rfl; exact ⟨0, Nat.le_refl _, rfl⟩
      · rintro ⟨j, hj, rfl⟩
        obtain rfl : j = 0 := by omega
        rfl
  | succ m ih =>
    obtain ⟨h1, h2, h3⟩ := ih (by omega)
    have hle := hd m (m + 1) (by omega) hm
    rw [compactUpTo_succ d (m + 1)]
    by_cases hk : d[m + 1]! = d[m]!
    · have : keeps d (m + 1) = false := keeps_neg (by omega) hk
      rw [this]
      simp only [Bool.false_eq_true, if_false, List.append_nil]
      refine ⟨h1, fun x hx => by rw [hk]; exact h2 x hx, fun x => ?_⟩
      rw [h3]
      constructor
      · rintro ⟨j, hj, rfl⟩; exact ⟨j, by omega, rfl⟩
      · rintro ⟨j, hj, rfl⟩
        rcases Nat.lt_or_ge m j with hlt | hge
        · obtain rfl : j = m + 1 := by omega
          exact ⟨m, Nat.le_refl _, hk.symm⟩
        · exact ⟨j, hge, rfl⟩
    · have : keeps d (m + 1) = true := keeps_pos hk
      rw [this]
      simp only [if_true]
      have hlt : d[m]! < d[m + 1]! := bs_lt_of_le_ne hle (fun e => hk e.symm)
      refine ⟨?_, fun x hx => ?_, fun x => ?_⟩
      · rw [List.pairwise_append]
        refine ⟨h1, List.pairwise_singleton _ _, fun x hx y hy => ?_⟩
        rw [List.mem_singleton.1 hy]
        exact List.lt_of_le_of_lt (h2 x hx) hlt
      · rcases List.mem_append.1 hx with hx | hx
        · exact List.le_trans (h2 x hx) hle
        · rw [List.mem_singleton.1 hx]; exact List.le_refl _
      · rw [List.mem_append, List.mem_singleton, h3]
        constructor
        · rintro (⟨j, hj, rfl⟩ | rfl)
          · exact ⟨j, by omega, rfl⟩
          · exact ⟨m + 1, Nat.le_refl _, rfl⟩
        · rintro ⟨j, hj, rfl⟩
          rcases Nat.lt_or_ge m j with hlt | hge
          · obtain rfl : j = m + 1 := by omega
            exact .inr rfl
          · exact .inl ⟨j, hge, rfl⟩

theorem compact_sorted (zs : List Bs) (h : zs.Pairwise (· ≤ ·)) : (compact zs).Pairwise (· < ·) ∧ ∀ x, x ∈ compact zs ↔ x ∈ zs := by
  rcases Nat.eq_zero_or_pos zs.length with h0 | h0
  · obtain rfl : zs = [] := List.eq_nil_of_length_eq_zero h0
    exact ⟨List.Pairwise.nil, fun x => Iff.rfl⟩
  · have hd : ∀ i j, i ≤ j → j < zs.toArray.size → zs.toArray[i]! ≤ zs.toArray[j]! := by
      intro i j hij hj
      have hj' : j < zs.length := by simpa using hj
      have e : ∀ k, k < zs.length → zs.toArray[k]! = zs[k]! := fun k hk => by simp
      rw [e i (by omega), e j hj', getElem!_pos zs i (by omega), getElem!_pos zs j hj']
      rcases Nat.lt_or_ge i j with hlt | hge
      · exact List.pairwise_iff_getElem.1 h i j (by omega) hj' hlt
      · obtain rfl : i = j := by omega
        exact List.le_refl _
    have hs := compact_upto zs.toArray hd (zs.length - 1) (by simp; omega)
    rw [show zs.length - 1 + 1 = zs.length by omega] at hs
    refine ⟨hs.1, fun x => ?_⟩
    show x ∈ compactUpTo zs.toArray zs.length ↔ _
    rw [hs.2.2 x]
    constructor
    · rintro ⟨j, hj, rfl⟩
      have hj' : j < zs.length := by omega
      rw [getElem!_pos zs.toArray j (by simpa using hj')]
      simp
    · intro hx
      obtain ⟨j, hj, rfl⟩ := List.getElem_of_mem hx
      exact ⟨j, by omega, by rw [getElem!_pos zs.toArray j (by simpa using hj)]; simp⟩

def leB (x y : Bs) : Bool := decide (x ≤ y)
theorem sorted_pairwise (zs : List Bs) : (zs.mergeSort leB).Pairwise (· ≤ ·) := by
  have h := List.pairwise_mergeSort (le := leB) (fun a b c h1 h2 => by
    simp only [leB, decide_eq_true_eq] at *
    exact List.le_trans h1 h2) (fun a b => by
    simp only [leB, Bool.or_eq_true, decide_eq_true_eq]
    exact List.le_total a b) zs
  exact h.imp fun h => by simpa [leB] using h

/-- The distinct names in their order. -/
def srt (l : List Bs) : List Bs := (compact ((l.map key).mergeSort leB)).map (·.drop 16)

theorem srt_keys (l : List Bs) : compact ((l.map key).mergeSort leB) = (srt l).map key := by
  unfold srt
  rw [List.map_map]
  have h := (compact_sorted _ (sorted_pairwise (l.map key))).2
  symm
  rw [List.map_congr_left (g := id), List.map_id]
  intro x hx
  have := (h x).1 hx
  rw [List.mem_mergeSort] at this
  obtain ⟨y, _, rfl⟩ := List.mem_map.1 this
  simp [key_drop]
theorem srt_mem (l : List Bs) (x : Bs) : x ∈ srt l ↔ x ∈ l := by
  have h := (compact_sorted _ (sorted_pairwise (l.map key))).2 (key x)
  rw [srt_keys, List.mem_mergeSort] at h
  constructor
  · intro hx
    obtain ⟨y, hy, e⟩ := List.mem_map.1 (h.1 (List.mem_map.2 ⟨x, hx, rfl⟩))
    rw [← key_inj e]; exact hy
  · intro hx
    obtain ⟨y, hy, e⟩ := List.mem_map.1 (h.2 (List.mem_map.2 ⟨x, hx, rfl⟩))
    rw [← key_inj e]; exact hy
theorem srt_pairwise (l : List Bs) : (srt l).Pairwise R := by
  have h := (compact_sorted _ (sorted_pairwise (l.map key))).1
  rw [srt_keys, List.pairwise_map] at h
  exact h
theorem srt_le (l : List Bs) : (srt l).length ≤ l.length := by
  have h : (compact ((l.map key).mergeSort leB)).length ≤ ((l.map key).mergeSort leB).length := by
    unfold compact compactUpTo
    rw [List.length_map]
    exact Nat.le_trans (List.length_filter_le _ _) (by simp)
  rw [List.length_mergeSort, List.length_map] at h
  unfold srt
  rw [List.length_map]
  exact h

/-- There is only one such list. -/
theorem srt_only : ∀ {l m : List Bs}, l.Pairwise R → m.Pairwise R → (∀ x, x ∈ l ↔ x ∈ m) → l = m := by
  intro l
  induction l with
  | nil =>
    intro m _ _ h
    cases m with
    | nil => rfl
    | cons b m => exact absurd ((h b).2 List.mem_cons_self) (by simp)
  | cons a l ih =>
    intro m hl hm h
    cases m with
    | nil => exact absurd ((h a).1 List.mem_cons_self) (by simp)
    | cons b m =>
      rw [List.pairwise_cons] at hl hm
      obtain rfl : a = b := by
        rcases List.mem_cons.1 ((h a).1 List.mem_cons_self) with e | ha
        · exact e
        · rcases List.mem_cons.1 ((h b).2 List.mem_cons_self) with e | hb
          · exact e.symm
          · exact (R.asymm (hm.1 a ha) (hl.1 b hb)).elim
      rw [ih hl.2 hm.2 fun x => ?_]
      constructor
      · intro hx
        rcases List.mem_cons.1 ((h x).1 (List.mem_cons_of_mem _ hx)) with rfl | k
        · exact (R.irrefl _ (hl.1 _ hx)).elim
        · exact k
      · intro hx
        rcases List.mem_cons.1 ((h x).2 (List.mem_cons_of_mem _ hx)) with rfl | k
        · exact (R.irrefl _ (hm.1 _ hx)).elim
        · exact k
theorem srt_srt (l : List Bs) : srt (srt l) = srt l := srt_only (srt_pairwise _) (srt_pairwise _) fun x => srt_mem _ x

/-- What stands behind the first k names of the sorted list. -/
def After (l : List Bs) (k : Nat) (s : Bs) : Prop := k = 0 ∨ ∃ h : k - 1 < (srt l).length, R ((srt l)[k - 1]'h) s
theorem after_iff (l : List Bs) (k : Nat) (hk : k ≤ (srt l).length) (s : Bs) (hs : s ∈ l) : After l k s ↔ s ∈ (srt l).drop k := by
  have hp := srt_pairwise l
  have hm := (srt_mem l s).2 hs
  unfold After
  generalize srt l = t at *
  have hg := List.pairwise_iff_getElem.1 hp
  constructor
  · rintro (rfl | ⟨h, hr⟩)
    · simpa using hm
    · obtain ⟨i, hi, rfl⟩ := List.getElem_of_mem hm
      rcases Nat.lt_or_ge i k with hlt | hge
      · exfalso
        rcases Nat.lt_or_ge i (k - 1) with h1 | h1
        · exact R.asymm hr (hg i (k - 1) hi h h1)
        · obtain rfl : i = k - 1 := by omega
          exact R.irrefl _ hr
      · exact List.mem_drop_iff_getElem.2 ⟨i - k, by omega, by congr 1; omega⟩
  · intro h
    rcases Nat.eq_zero_or_pos k with rfl | h0
    · exact .inl rfl
    · refine .inr ⟨by omega, ?_⟩
      obtain ⟨i, hi, rfl⟩ := List.mem_drop_iff_getElem.1 h
      exact hg (k - 1) (k + i) (by omega) (by omega) (by omega)

/-- The best one so far of those behind the first k. -/
def Best (l : List Bs) (k : Nat) (done : List Bs) (any : Bool) (best : Bs) : Prop :=
  (any = false → ∀ s ∈ done, ¬ After l k s) ∧ (any = true → best ∈ done ∧ After l k best ∧ ∀ s ∈ done, After l k s → ¬ R s best)
theorem Best.skip {l : List Bs} {k : Nat} {done : List Bs} {any : Bool} {best s : Bs} (h : Best l k done any best) (hs : ¬ After l k s ∨ any = true ∧ ¬ R s best) : Best l k (done ++ [s]) any best := by
  constructor
  · intro ha x hx
    rcases List.mem_append.1 hx with hx | hx
    · exact h.1 ha x hx
    · rw [List.mem_singleton.1 hx]
      rcases hs with hs | hs
      · exact hs
      · rw [ha] at hs; exact absurd hs.1 (by simp)
  · intro ha
    obtain ⟨h1, h2, h3⟩ := h.2 ha
    refine ⟨List.mem_append_left _ h1, h2, fun x hx hx' => ?_⟩
    rcases List.mem_append.1 hx with hx | hx
    · exact h3 x hx hx'
    · rw [List.mem_singleton.1 hx] at hx' ⊢
      rcases hs with hs | hs
      · exact absurd hx' hs
      · exact hs.2
theorem Best.take {l : List Bs} {k : Nat} {done : List Bs} {any : Bool} {best s : Bs} (h : Best l k done any best) (hs : After l k s) (hb : any = true → R s best) : Best l k (done ++ [s]) true s := by
  refine ⟨fun ha => by simp at ha, fun _ => ⟨List.mem_append_right _ (List.mem_singleton.2 rfl), hs, fun x hx hx' hr => ?_⟩⟩
  rcases List.mem_append.1 hx with hx | hx
  · cases hany : any with
    | false => exact h.1 hany x hx hx'
    | true => exact (h.2 hany).2.2 x hx hx' (hr.trans (hb hany))
  · rw [List.mem_singleton.1 hx] at hr
    exact R.irrefl _ hr
theorem Best.none {l : List Bs} {k : Nat} {best : Bs} (h : Best l k l false best) (hk : k ≤ (srt l).length) : k = (srt l).length := by
  rcases Nat.lt_or_ge k (srt l).length with hlt | hge
  · exfalso
    have hm : (srt l)[k] ∈ l := (srt_mem l _).1 (List.getElem_mem hlt)
    exact h.1 rfl _ hm ((after_iff l k hk _ hm).2 (List.mem_drop_iff_getElem.2 ⟨0, by omega, rfl⟩))
  · omega
theorem Best.some {l : List Bs} {k : Nat} {best : Bs} (h : Best l k l true best) (hk : k ≤ (srt l).length) : ∃ hlt : k < (srt l).length, (srt l)[k] = best := by
  obtain ⟨h1, h2, h3⟩ := h.2 rfl
  have hd := (after_iff l k hk best h1).1 h2
  obtain ⟨i, hi, e⟩ := List.mem_drop_iff_getElem.1 hd
  refine ⟨by omega, ?_⟩
  rcases Nat.eq_zero_or_pos i with rfl | h0
  · simpa using e
  · exfalso
    have hlt : k < (srt l).length := by omega
    have hm : (srt l)[k] ∈ l := (srt_mem l _).1 (List.getElem_mem hlt)
    refine h3 _ hm ((after_iff l k hk _ hm).2 (List.mem_drop_iff_getElem.2 ⟨0, by omega, rfl⟩)) ?_
    rw [← e]
    exact List.pairwise_iff_getElem.1 (srt_pairwise l) k (k + i) hlt (by omega) (by omega)
end Go.Proofs.Yteclnibbgdbjfaa.Bin
