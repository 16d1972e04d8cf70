/- Plain arithmetic: the hash of a list of bytes from the front on, and by powers from the end on. No program in this text. -/
import Derived.Lib.SlicesCompact
namespace Go.Proofs.YtjcockcilkiggaaGreat.Hash

abbrev M : Nat := 2305843009213693951
abbrev B : Nat := 1099511628211

def step (h : Nat) (c : UInt8) : Nat := (h * B + c.toNat + 1) % M
def go (h : Nat) (l : List UInt8) : Nat := l.foldl step h
/-- The hash. -/
def of (l : List UInt8) : Nat := go 1 l
/-- The base's power. -/
def pw : Nat → Nat
  | 0 => 1
  | n + 1 => pw n * B % M
/-- What the bytes alone add. -/
def sum : List UInt8 → Nat
  | [] => 0
  | c :: l => (sum l + pw l.length * (c.toNat + 1)) % M

theorem pw_lt (n : Nat) : pw n < M := by
  cases n with
  | zero => decide
  | succ n => exact Nat.mod_lt _ (by decide)
theorem sum_lt (l : List UInt8) : sum l < M := by
  cases l with
  | nil => decide
  | cons c l => exact Nat.mod_lt _ (by decide)
theorem step_lt (h : Nat) (c : UInt8) : step h c < M := Nat.mod_lt _ (by decide)
theorem step_eq (h : Nat) (c : UInt8) : step h c = (h * B % M + c.toNat + 1) % M := by
  unfold step
  rw [Nat.add_assoc, Nat.add_assoc, Nat.mod_add_mod]
theorem go_lt (h : Nat) (l : List UInt8) (hh : h < M) : go h l < M := by
  induction l generalizing h with
  | nil => exact hh
  | cons c l ih => exact ih _ (step_lt h c)
theorem of_lt (l : List UInt8) : of l < M := go_lt _ _ (by decide)

theorem k1 (x p s : Nat) : (x % M * p + s) % M = (x * p + s) % M := by rw [Nat.add_mod, Nat.mod_mul_mod, ← Nat.add_mod]
theorem k2 (h x y : Nat) : (h * (x % M) + y % M) % M = (h * x + y) % M := by rw [Nat.add_mod, Nat.mul_mod_mod, Nat.mod_mod, ← Nat.add_mod]

theorem go_eq (h : Nat) (l : List UInt8) (hh : h < M) : go h l = (h * pw l.length + sum l) % M := by
  induction l generalizing h with
  | nil => simp only [go, List.foldl_nil, List.length_nil, pw, sum, Nat.mul_one, Nat.add_zero]; rw [Nat.mod_eq_of_lt hh]
  | cons c l ih =>
    show go (step h c) l = _
    rw [ih _ (step_lt h c)]
    simp only [step, List.length_cons, pw, sum]
    rw [k1, k2]
    congr 1
    rw [Nat.add_assoc (h * B), Nat.add_mul, Nat.mul_assoc h, Nat.mul_comm B, Nat.mul_comm (c.toNat + 1)]
    omega
theorem of_eq (l : List UInt8) : of l = (sum l + pw l.length) % M := by
  unfold of
  rw [go_eq 1 l (by decide), Nat.one_mul, Nat.add_comm]
theorem of_append (a b : List UInt8) : of (a ++ b) = go (of a) b := by simp [of, go]
theorem of_join (a b : List UInt8) : (of a * pw b.length % M + of b + (M - pw b.length)) % M = of (a ++ b) := by
  have h1 := pw_lt b.length
  have h2 := sum_lt b
  rw [of_append, go_eq _ _ (of_lt a), of_eq b]
  generalize of a * pw b.length = x
  generalize pw b.length = p at *
  generalize sum b = s at *
  unfold M at *
  omega
theorem of_snoc (l : List UInt8) (c : UInt8) : of (l ++ [c]) = step (of l) c := by
  unfold of go
  rw [List.foldl_append, List.foldl_cons, List.foldl_nil]
theorem of_back (s t u : List UInt8) (h : of s = of t) : of (s ++ u) = of (t ++ u) := by rw [of_append, of_append, h]
theorem cancel (p a b : Nat) (ha : a < 2305843009213693951) (hb : b < 2305843009213693951) (h : (a + p) % 2305843009213693951 = (b + p) % 2305843009213693951) : a = b := by omega
theorem of_front (s t u : List UInt8) (hl : s.length = t.length) (h : of s = of t) : of (u ++ s) = of (u ++ t) := by
  have h1 := pw_lt t.length
  have h2 := sum_lt s
  have h3 := sum_lt t
  rw [of_eq s, of_eq t, hl] at h
  rw [of_append, of_append, go_eq _ _ (of_lt u), go_eq _ _ (of_lt u), hl]
  rw [cancel _ _ _ h2 h3 h]
theorem drop_sum (l : List UInt8) (k : Nat) (hk : k < l.length) : sum (l.drop k) = (sum (l.drop (k + 1)) + pw (l.length - (k + 1)) * (l[k].toNat + 1)) % M := by
  rw [List.drop_eq_getElem_cons hk, sum, List.length_drop]

/-- The product by its digits in base 2^61. -/
theorem times_eq (a b : Nat) (ha : a < M) (hb : b < M) :
    a * b / 18446744073709551616 < 288230376151711744 ∧ (a * b / 18446744073709551616 * 8 + a * b % 18446744073709551616 / 2305843009213693952 + a * b % 18446744073709551616 % 2305843009213693952) % M = a * b % M := by
  have h : a * b ≤ 2305843009213693950 * 2305843009213693950 := Nat.mul_le_mul (by unfold M at ha; omega) (by unfold M at hb; omega)
  generalize a * b = x at *
  unfold M
  omega
/-- One step of the product bit by bit. -/
theorem bit_step (o a b : Nat) : (((o + a) % M) + (2 * a % M) * (b / 2)) % M = (o + a * (2 * (b / 2) + 1)) % M ∧ (o + (2 * a % M) * (b / 2)) % M = (o + a * (2 * (b / 2))) % M := by
  constructor
  · rw [Nat.add_comm ((o + a) % M), k1, Nat.add_mod_mod]
    congr 1
    rw [Nat.mul_add, Nat.mul_one, Nat.mul_right_comm 2 a, Nat.mul_comm (2 * (b / 2)) a]
    omega
  · rw [Nat.add_comm o, k1, Nat.mul_right_comm 2 a, Nat.mul_comm (2 * (b / 2)) a, Nat.add_comm]
end Go.Proofs.YtjcockcilkiggaaGreat.Hash
/- Names, paths and their order on lists of bytes. No program in this text. -/
namespace Go.Proofs.YtjcockcilkiggaaGreat.Bin

def nameByte (c : UInt8) : Bool := (decide (97 ≤ c.toNat) && decide (c.toNat ≤ 122)) || (decide (48 ≤ c.toNat) && decide (c.toNat ≤ 57))
/-- A name. -/
def name (l : List UInt8) : Bool := decide (1 ≤ l.length) && decide (l.length ≤ 12) && l.all nameByte
def bitByte (c : UInt8) : Bool := c.toNat == 48 || c.toNat == 49
/-- A path. -/
def path (l : List UInt8) : Bool := l.length == 16 && l.all bitByte

def digit (n : Nat) : UInt8 := UInt8.ofNat (48 + n % 2)
/-- The k lowest bits, the most significant first. -/
def low : Nat → Nat → List UInt8
  | 0, _ => []
  | k + 1, n => low k (n / 2) ++ [digit n]

theorem low_length (k n : Nat) : (low k n).length = k := by
  induction k generalizing n with
  | zero => rfl
  | succ k ih => simp [low, ih]
theorem digit_bit (n : Nat) : bitByte (digit n) = true := by
  have h : (digit n).toNat = 48 + n % 2 := by
    unfold digit
    rw [UInt8.toNat_ofNat']
    omega
  unfold bitByte
  rw [h]
  have : n % 2 < 2 := Nat.mod_lt _ (by decide)
  rcases (by omega : n % 2 = 0 ∨ n % 2 = 1) with h | h <;> simp [h]
theorem digit_toNat (n : Nat) : (digit n).toNat = 48 + n % 2 := by
  unfold digit
  rw [UInt8.toNat_ofNat']
  omega
theorem low_bits (k n : Nat) : (low k n).all bitByte = true := by
  induction k generalizing n with
  | zero => rfl
  | succ k ih => simp [low, ih, digit_bit]
/-- One more bit, in front. -/
theorem low_front (k n : Nat) : low (k + 1) n = digit (n / 2 ^ k) :: low k n := by
  induction k generalizing n with
  | zero => simp [low]
  | succ k ih =>
    rw [low, ih, low]
    rw [Nat.div_div_eq_div_mul, Nat.pow_succ, Nat.mul_comm 2]
    rfl

/-- The path of a name. -/
def of (l : List UInt8) : List UInt8 := low 16 (Hash.of l)
theorem of_length (l : List UInt8) : (of l).length = 16 := low_length _ _
theorem of_path (l : List UInt8) : path (of l) = true := by
  have h1 := of_length l
  have h2 : (of l).all bitByte = true := low_bits _ _
  generalize of l = p at *
  simp [path, h1, h2]
theorem name_len {l : List UInt8} (h : name l = true) : 1 ≤ l.length ∧ l.length ≤ 12 := by
  simp only [name, Bool.and_eq_true, decide_eq_true_eq] at h
  exact h.1
end Go.Proofs.YtjcockcilkiggaaGreat.Bin
/- The order of names: by path, then byte by byte; the sorted list of distinct names, and that it is the only one. No program in this text. -/
namespace Go.Proofs.YtjcockcilkiggaaGreat.Bin
open Go.Lib

abbrev Bs := List UInt8

theorem bs_lt_irrefl (a : Bs) : ¬ a < a := List.lt_irrefl a
theorem bs_lt_trans {a b c : Bs} (h : a < b) (k : b < c) : a < c := List.lt_trans h k
theorem bs_le_of_not {a b : Bs} (h : ¬ b < a) : a ≤ b := h
theorem bs_lt_of_le_ne {a b : Bs} (h : a ≤ b) (hn : a ≠ b) : a < b := by
  rcases Classical.em (a < b) with k | k
  · exact k
  · exact absurd (List.le_antisymm h k) hn

/-- What is sorted by: the path, then the name. -/
def key (l : Bs) : Bs := of l ++ l
theorem key_drop (l : Bs) : (key l).drop 16 = l := by
  unfold key
  rw [List.drop_append, of_length]
  simp [List.drop_eq_nil_of_le, of_length]
theorem key_inj {a b : Bs} (h : key a = key b) : a = b := by rw [← key_drop a, h, key_drop]
theorem key_length (l : Bs) : (key l).length = 16 + l.length := by simp [key, of_length]

/-- Ahead. -/
def R (a b : Bs) : Prop := key a < key b
instance (a b : Bs) : Decidable (R a b) := inferInstanceAs (Decidable (key a < key b))
theorem R.irrefl (a : Bs) : ¬ R a a := bs_lt_irrefl _
theorem R.trans {a b c : Bs} (h : R a b) (k : R b c) : R a c := bs_lt_trans h k
theorem R.asymm {a b : Bs} (h : R a b) (k : R b a) : False := R.irrefl a (h.trans k)

theorem append_lt {p q a b : Bs} (h : p.length = q.length) : p ++ a < q ++ b ↔ p < q ∨ p = q ∧ a < b := by
  induction p generalizing q with
  | nil =>
    obtain rfl : q = [] := by cases q <;> simp_all
    simp
  | cons x p ih =>
    cases q with
    | nil => simp at h
    | cons y q =>
      simp only [List.length_cons, Nat.add_right_cancel_iff] at h
      simp only [List.cons_append, List.cons_lt_cons_iff, ih h, List.cons.injEq]
      constructor
      · rintro (h | ⟨h, h' | h'⟩)
        · exact .inl (.inl h)
        · exact .inl (.inr ⟨h, h'⟩)
        · exact .inr ⟨⟨h, h'.1⟩, h'.2⟩
      · rintro ((h | h) | ⟨⟨h, h'⟩, h''⟩)
        · exact .inl h
        · exact .inr ⟨h.1, .inl h.2⟩
        · exact .inr ⟨h, .inr ⟨h', h''⟩⟩
theorem R_iff (a b : Bs) : R a b ↔ of a < of b ∨ of a = of b ∧ a < b := append_lt (by rw [of_length, of_length])

/-- Of a sorted row what is kept of its first places. -/
theorem compact_upto (d : Array Bs) (hd : ∀ i j, i ≤ j → j < d.size → d[i]! ≤ d[j]!) (m : Nat) (hm : m < d.size) :
    (compactUpTo d (m + 1)).Pairwise (· < ·) ∧ (∀ x ∈ compactUpTo d (m + 1), x ≤ d[m]!) ∧ ∀ x, x ∈ compactUpTo d (m + 1) ↔ ∃ j, j ≤ m ∧ d[j]! = x := by
  induction m with
  | zero =>
    have e : compactUpTo d (0 + 1) = [d[0]!] := by
      rw [compactUpTo_succ, keeps_lt_one d 0 (by omega)]
      rfl
    rw [e]
    refine ⟨List.pairwise_singleton _ _, fun x hx => ?_, fun x => ?_⟩
    · rw [List.mem_singleton.1 hx]; exact List.le_refl _
    · rw [List.mem_singleton]
      constructor
      · rintro rfl; exact ⟨0, Nat.le_refl _, rfl⟩
      · rintro ⟨j, hj, rfl⟩
        obtain rfl : j = 0 := by omega
        rfl
  | succ m ih =>
    obtain ⟨h1, h2, h3⟩ := ih (by omega)
    have hle := hd m (m + 1) (by omega) hm
    rw [compactUpTo_succ d (m + 1)]
    by_cases hk : d[m + 1]! = d[m]!
    · have : keeps d (m + 1) = false := keeps_neg (by omega) hk
      rw [this]
      simp only [Bool.false_eq_true, if_false, List.append_nil]
      refine ⟨h1, fun x hx => by rw [hk]; exact h2 x hx, fun x => ?_⟩
      rw [h3]
      constructor
      · rintro ⟨j, hj, rfl⟩; exact ⟨j, by omega, rfl⟩
      · rintro ⟨j, hj, rfl⟩
        rcases Nat.lt_or_ge m j with hlt | hge
        · obtain rfl : j = m + 1 := by omega
          exact ⟨m, Nat.le_refl _, hk.symm⟩
        · exact ⟨j, hge, rfl⟩
    · have : keeps d (m + 1) = true := keeps_pos hk
      rw [this]
      simp only [if_true]
      have hlt : d[m]! < d[m + 1]! := bs_lt_of_le_ne hle (fun e => hk e.symm)
      refine ⟨?_, fun x hx => ?_, fun x => ?_⟩
      · rw [List.pairwise_append]
        refine ⟨h1, List.pairwise_singleton _ _, fun x hx y hy => ?_⟩
        rw [List.mem_singleton.1 hy]
        exact List.lt_of_le_of_lt (h2 x hx) hlt
      · rcases List.mem_append.1 hx with hx | hx
        · exact List.le_trans (h2 x hx) hle
        · rw [List.mem_singleton.1 hx]; exact List.le_refl _
      · rw [List.mem_append, List.mem_singleton, h3]
        constructor
        · rintro (⟨j, hj, rfl⟩ | rfl)
          · exact ⟨j, by omega, rfl⟩
          · exact ⟨m + 1, Nat.le_refl _, rfl⟩
        · rintro ⟨j, hj, rfl⟩
          rcases Nat.lt_or_ge m j with hlt | hge
          · obtain rfl : j = m + 1 := by omega
            exact .inr rfl
          · exact .inl ⟨j, hge, rfl⟩

theorem compact_sorted (zs : List Bs) (h : zs.Pairwise (· ≤ ·)) : (compact zs).Pairwise (· < ·) ∧ ∀ x, x ∈ compact zs ↔ x ∈ zs := by
  rcases Nat.eq_zero_or_pos zs.length with h0 | h0
  · obtain rfl : zs = [] := List.eq_nil_of_length_eq_zero h0
    exact ⟨List.Pairwise.nil, fun x => Iff.rfl⟩
  · have hd : ∀ i j, i ≤ j → j < zs.toArray.size → zs.toArray[i]! ≤ zs.toArray[j]! := by
      intro i j hij hj
      have hj' : j < zs.length := by simpa using hj
      have e : ∀ k, k < zs.length → zs.toArray[k]! = zs[k]! := fun k hk => by simp
      rw [e i (by omega), e j hj', getElem!_pos zs i (by omega), getElem!_pos zs j hj']
      rcases Nat.lt_or_ge i j with hlt | hge
      · exact List.pairwise_iff_getElem.1 h i j (by omega) hj' hlt
      · obtain rfl : i = j := by omega
        exact List.le_refl _
    have hs := compact_upto zs.toArray hd (zs.length - 1) (by simp; omega)
    rw [show zs.length - 1 + 1 = zs.length by omega] at hs
    refine ⟨hs.1, fun x => ?_⟩
    show x ∈ compactUpTo zs.toArray zs.length ↔ _
    rw [hs.2.2 x]
    constructor
    · rintro ⟨j, hj, rfl⟩
      have hj' : j < zs.length := by omega
      rw [getElem!_pos zs.toArray j (by simpa using hj')]
      simp
    · intro hx
      obtain ⟨j, hj, rfl⟩ := List.getElem_of_mem hx
      exact ⟨j, by omega, by rw [getElem!_pos zs.toArray j (by simpa using hj)]; simp⟩

def leB (x y : Bs) : Bool := decide (x ≤ y)
theorem sorted_pairwise (zs : List Bs) : (zs.mergeSort leB).Pairwise (· ≤ ·) := by
  have h := List.pairwise_mergeSort (le := leB) (fun a b c h1 h2 => by
    simp only [leB, decide_eq_true_eq] at *
    exact List.le_trans h1 h2) (fun a b => by
    simp only [leB, Bool.or_eq_true, decide_eq_true_eq]
    exact List.le_total a b) zs
  exact h.imp fun h => by simpa [leB] using h

/-- The distinct names in their order. -/
def srt (l : List Bs) : List Bs := (compact ((l.map key).mergeSort leB)).map (·.drop 16)

theorem srt_keys (l : List Bs) : compact ((l.map key).mergeSort leB) = (srt l).map key := by
  unfold srt
  rw [List.map_map]
  have h := (compact_sorted _ (sorted_pairwise (l.map key))).2
  symm
  rw [List.map_congr_left (g := id), List.map_id]
  intro x hx
  have := (h x).1 hx
  rw [List.mem_mergeSort] at this
  obtain ⟨y, _, rfl⟩ := List.mem_map.1 this
  simp [key_drop]
theorem srt_mem (l : List Bs) (x : Bs) : x ∈ srt l ↔ x ∈ l := by
  have h := (compact_sorted _ (sorted_pairwise (l.map key))).2 (key x)
  rw [srt_keys, List.mem_mergeSort] at h
  constructor
  · intro hx
    obtain ⟨y, hy, e⟩ := List.mem_map.1 (h.1 (List.mem_map.2 ⟨x, hx, rfl⟩))
    rw [← key_inj e]; exact hy
  · intro hx
    obtain ⟨y, hy, e⟩ := List.mem_map.1 (h.2 (List.mem_map.2 ⟨x, hx, rfl⟩))
    rw [← key_inj e]; exact hy
theorem srt_pairwise (l : List Bs) : (srt l).Pairwise R := by
  have h := (compact_sorted _ (sorted_pairwise (l.map key))).1
  rw [srt_keys, List.pairwise_map] at h
  exact h
theorem srt_le (l : List Bs) : (srt l).length ≤ l.length := by
  have h : (compact ((l.map key).mergeSort leB)).length ≤ ((l.map key).mergeSort leB).length := by
    unfold compact compactUpTo
    rw [List.length_map]
    exact Nat.le_trans (List.length_filter_le _ _) (by simp)
  rw [List.length_mergeSort, List.length_map] at h
  unfold srt
  rw [List.length_map]
  exact h

/-- There is only one such list. -/
theorem srt_only : ∀ {l m : List Bs}, l.Pairwise R → m.Pairwise R → (∀ x, x ∈ l ↔ x ∈ m) → l = m := by
  intro l
  induction l with
  | nil =>
    intro m _ _ h
    cases m with
    | nil => rfl
    | cons b m => exact absurd ((h b).2 List.mem_cons_self) (by simp)
  | cons a l ih =>
    intro m hl hm h
    cases m with
    | nil => exact absurd ((h a).1 List.mem_cons_self) (by simp)
    | cons b m =>
      rw [List.pairwise_cons] at hl hm
      obtain rfl : a = b := by
        rcases List.mem_cons.1 ((h a).1 List.mem_cons_self) with e | ha
        · exact e
        · rcases List.mem_cons.1 ((h b).2 List.mem_cons_self) with e | hb
          · exact e.symm
          · exact (R.asymm (hm.1 a ha) (hl.1 b hb)).elim
      rw [ih hl.2 hm.2 fun x => ?_]
      constructor
      · intro hx
        rcases List.mem_cons.1 ((h x).1 (List.mem_cons_of_mem _ hx)) with rfl | k
        · exact (R.irrefl _ (hl.1 _ hx)).elim
        · exact k
      · intro hx
        rcases List.mem_cons.1 ((h x).2 (List.mem_cons_of_mem _ hx)) with rfl | k
        · exact (R.irrefl _ (hm.1 _ hx)).elim
        · exact k
theorem srt_srt (l : List Bs) : srt (srt l) = srt l := srt_only (srt_pairwise _) (srt_pairwise _) fun x => srt_mem _ x

/-- What stands behind the first k names of the sorted list. -/
def After (l : List Bs) (k : Nat) (s : Bs) : Prop := k = 0 ∨ ∃ h : k - 1 < (srt l).length, R ((srt l)[k - 1]'h) s
theorem after_iff (l : List Bs) (k : Nat) (hk : k ≤ (srt l).length) (s : Bs) (hs : s ∈ l) : After l k s ↔ s ∈ (srt l).drop k := by
  have hp := srt_pairwise l
  have hm := (srt_mem l s).2 hs
  unfold After
  generalize srt l = t at *
  have hg := List.pairwise_iff_getElem.1 hp
  constructor
  · rintro (rfl | ⟨h, hr⟩)
    · simpa using hm
    · obtain ⟨i, hi, rfl⟩ := List.getElem_of_mem hm
      rcases Nat.lt_or_ge i k with hlt | hge
      · exfalso
        rcases Nat.lt_or_ge i (k - 1) with h1 | h1
        · exact R.asymm hr (hg i (k - 1) hi h h1)
        · obtain rfl : i = k - 1 := by omega
          exact R.irrefl _ hr
      · exact List.mem_drop_iff_getElem.2 ⟨i - k, by omega, by congr 1; omega⟩
  · intro h
    rcases Nat.eq_zero_or_pos k with rfl | h0
    · exact .inl rfl
    · refine .inr ⟨by omega, ?_⟩
      obtain ⟨i, hi, rfl⟩ := List.mem_drop_iff_getElem.1 h
      exact hg (k - 1) (k + i) (by omega) (by omega) (by omega)

/-- The best one so far of those behind the first k. -/
def Best (l : List Bs) (k : Nat) (done : List Bs) (any : Bool) (best : Bs) : Prop :=
  (any = false → ∀ s ∈ done, ¬ After l k s) ∧ (any = true → best ∈ done ∧ After l k best ∧ ∀ s ∈ done, After l k s → ¬ R s best)
theorem Best.skip {l : List Bs} {k : Nat} {done : List Bs} {any : Bool} {best s : Bs} (h : Best l k done any best) (hs : ¬ After l k s ∨ any = true ∧ ¬ R s best) : Best l k (done ++ [s]) any best := by
  constructor
  · intro ha x hx
    rcases List.mem_append.1 hx with hx | hx
    · exact h.1 ha x hx
    · rw [List.mem_singleton.1 hx]
      rcases hs with hs | hs
      · exact hs
      · rw [ha] at hs; exact absurd hs.1 (by simp)
  · intro ha
    obtain ⟨h1, h2, h3⟩ := h.2 ha
    refine ⟨List.mem_append_left _ h1, h2, fun x hx hx' => ?_⟩
    rcases List.mem_append.1 hx with hx | hx
    · exact h3 x hx hx'
    · rw [List.mem_singleton.1 hx] at hx' ⊢
      rcases hs with hs | hs
      · exact absurd hx' hs
      · exact hs.2
theorem Best.take {l : List Bs} {k : Nat} {done : List Bs} {any : Bool} {best s : Bs} (h : Best l k done any best) (hs : After l k s) (hb : any = true → R s best) : Best l k (done ++ [s]) true s := by
  refine ⟨fun ha => by simp at ha, fun _ => ⟨List.mem_append_right _ (List.mem_singleton.2 rfl), hs, fun x hx hx' hr => ?_⟩⟩
  rcases List.mem_append.1 hx with hx | hx
  · cases hany : any with
    | false => exact h.1 hany x hx hx'
    | true => exact (h.2 hany).2.2 x hx hx' (hr.trans (hb hany))
  · rw [List.mem_singleton.1 hx] at hr
    exact R.irrefl _ hr
theorem Best.none {l : List Bs} {k : Nat} {best : Bs} (h : Best l k l false best) (hk : k ≤ (srt l).length) : k = (srt l).length := by
  rcases Nat.lt_or_ge k (srt l).length with hlt | hge
  · exfalso
    have hm : (srt l)[k] ∈ l := (srt_mem l _).1 (List.getElem_mem hlt)
    exact h.1 rfl _ hm ((after_iff l k hk _ hm).2 (List.mem_drop_iff_getElem.2 ⟨0, by omega, rfl⟩))
  · omega
theorem Best.some {l : List Bs} {k : Nat} {best : Bs} (h : Best l k l true best) (hk : k ≤ (srt l).length) : ∃ hlt : k < (srt l).length, (srt l)[k] = best := by
  obtain ⟨h1, h2, h3⟩ := h.2 rfl
  have hd := (after_iff l k hk best h1).1 h2
  obtain ⟨i, hi, e⟩ := List.mem_drop_iff_getElem.1 hd
  refine ⟨by omega, ?_⟩
  rcases Nat.eq_zero_or_pos i with rfl | h0
  · simpa using e
  · exfalso
    have hlt : k < (srt l).length := by omega
    have hm : (srt l)[k] ∈ l := (srt_mem l _).1 (List.getElem_mem hlt)
    refine h3 _ hm ((after_iff l k hk _ hm).2 (List.mem_drop_iff_getElem.2 ⟨0, by omega, rfl⟩)) ?_
    rw [← e]
    exact List.pairwise_iff_getElem.1 (srt_pairwise l) k (k + i) hlt (by omega) (by omega)
end Go.Proofs.YtjcockcilkiggaaGreat.Bin
/- Plain facts on lists of bytes: the encoding of a list of strings, each behind its length in two bytes. No Go text. -/
namespace Go.Proofs.YtjcockcilkiggaaGreat.Wire

def encLen (ss : List (List UInt8)) : Nat := (ss.map fun s => 2 + s.length).sum
def enc1 (s : List UInt8) : List UInt8 := UInt8.ofNat (s.length / 256) :: UInt8.ofNat s.length :: s
def enc (ss : List (List UInt8)) : List UInt8 := ss.flatMap enc1

theorem enc1_length (s : List UInt8) : (enc1 s).length = 2 + s.length := by simp [enc1]; omega
theorem encLen_nil : encLen [] = 0 := rfl
theorem encLen_cons (s : List UInt8) (ss : List (List UInt8)) : encLen (s :: ss) = 2 + s.length + encLen ss := by simp [encLen]
theorem encLen_append (a b : List (List UInt8)) : encLen (a ++ b) = encLen a + encLen b := by simp [encLen]
theorem enc_length (ss : List (List UInt8)) : (enc ss).length = encLen ss := by
  induction ss with
  | nil => rfl
  | cons s ss ih => simp only [enc, List.flatMap_cons, List.length_append, encLen_cons, enc1_length] at *; omega
theorem enc_append (a b : List (List UInt8)) : enc (a ++ b) = enc a ++ enc b := by simp [enc]
theorem take_step {α : Type} (l : List α) (k : Nat) (h : k < l.length) : l.take (k + 1) = l.take k ++ [l[k]] := by rw [List.take_succ_eq_append_getElem h]
theorem encLen_step (ss : List (List UInt8)) (k : Nat) (h : k < ss.length) : encLen (ss.take (k + 1)) = encLen (ss.take k) + (2 + ss[k].length) := by
  rw [take_step ss k h, encLen_append, encLen_cons, encLen_nil]; omega
theorem encLen_take_le (ss : List (List UInt8)) (k : Nat) : encLen (ss.take k) ≤ encLen ss := by
  have h := encLen_append (ss.take k) (ss.drop k)
  rw [List.take_append_drop] at h
  omega
theorem enc_step (ss : List (List UInt8)) (k : Nat) (h : k < ss.length) : enc (ss.take (k + 1)) = enc (ss.take k) ++ enc1 ss[k] := by
  rw [take_step ss k h, enc_append]; simp [enc]
theorem two_le (ss : List (List UInt8)) : ss.length * 2 ≤ encLen ss := by
  induction ss with
  | nil => simp [encLen]
  | cons s ss ih => rw [encLen_cons, List.length_cons]; omega
/-- What Put accepts. -/
def fitsB (ss : List (List UInt8)) : Bool := decide (encLen ss ≤ 600)
def okB (ss : List (List UInt8)) : Bool := decide (ss.length ≤ 60) && fitsB ss

/-- The number in the first two bytes. -/
def head2 (l : List UInt8) : Nat := 256 * (l[0]?.getD 0).toNat + (l[1]?.getD 0).toNat
theorem head2_eq (l : List UInt8) (h : 2 ≤ l.length) : 256 * l[0].toNat + l[1].toNat = head2 l := by
  simp [head2, show 0 < l.length by omega, show 1 < l.length by omega]
theorem head2_le (l : List UInt8) : head2 l ≤ 65535 := by
  have h1 := (l[0]?.getD 0).toNat_lt
  have h2 := (l[1]?.getD 0).toNat_lt
  unfold head2
  omega
/-- A string begins with an encoded string. -/
def firstB (l : List UInt8) : Bool := decide (2 ≤ l.length) && decide (head2 l + 2 ≤ l.length)

theorem head2_enc1 (p r : List UInt8) (h : p.length ≤ 65535) : head2 (enc1 p ++ r) = p.length := by
  simp only [head2, enc1, List.cons_append, List.getElem?_cons_zero, List.getElem?_cons_succ, Option.getD_some, UInt8.toNat_ofNat']
  omega
theorem first_enc1 (p r : List UInt8) (h : p.length ≤ 65535) : firstB (enc1 p ++ r) = true ∧ ((enc1 p ++ r).drop 2).take (head2 (enc1 p ++ r)) = p ∧ (enc1 p ++ r).drop (2 + head2 (enc1 p ++ r)) = r := by
  rw [firstB, head2_enc1 p r h]
  refine ⟨?_, ?_, ?_⟩
  · simp [enc1]
  · simp [enc1]
  · rw [← List.drop_drop]; simp [enc1]
theorem split_first (l : List UInt8) (h : firstB l = true) : l = enc1 ((l.drop 2).take (head2 l)) ++ l.drop (2 + head2 l) := by
  obtain ⟨h2, hle⟩ : 2 ≤ l.length ∧ head2 l + 2 ≤ l.length := by simpa [firstB] using h
  match l, h2 with
  | x :: y :: t, _ =>
    have hx := x.toNat_lt
    have hy := y.toNat_lt
    have hn : head2 (x :: y :: t) = 256 * x.toNat + y.toNat := by simp [head2]
    rw [hn] at hle ⊢
    simp only [List.length_cons] at hle
    have hlen : ((x :: y :: t).drop 2 |>.take (256 * x.toNat + y.toNat)).length = 256 * x.toNat + y.toNat := by simp; omega
    rw [enc1, hlen]
    have e1 : UInt8.ofNat ((256 * x.toNat + y.toNat) / 256) = x := by
      apply UInt8.toNat_inj.1; simp only [UInt8.toNat_ofNat']; omega
    have e2 : UInt8.ofNat (256 * x.toNat + y.toNat) = y := by
      apply UInt8.toNat_inj.1; simp only [UInt8.toNat_ofNat']; omega
    rw [e1, e2]
    have e3 : (x :: y :: t).drop (2 + (256 * x.toNat + y.toNat)) = t.drop (256 * x.toNat + y.toNat) := by rw [← List.drop_drop]; rfl
    rw [e3]
    simp
theorem first_length (l : List UInt8) (h : firstB l = true) : ((l.drop 2).take (head2 l)).length + 2 + (l.drop (2 + head2 l)).length = l.length := by
  have e := congrArg List.length (split_first l h)
  rw [List.length_append, enc1_length] at e
  omega
theorem enc_nil_iff (qs : List (List UInt8)) : enc qs = [] ↔ qs = [] := by
  cases qs with
  | nil => simp [enc]
  | cons q qs => simp [enc, enc1]
/-- What begins with encoded strings and is an encoding has an encoding behind them. -/
theorem enc_split : ∀ (ps qs : List (List UInt8)) (r : List UInt8), enc ps ++ r = enc qs → (enc qs).length ≤ 65535 → ∃ qs', qs = ps ++ qs' ∧ r = enc qs'
  | [], qs, r, h, _ => ⟨qs, rfl, by simpa [enc] using h⟩
  | p :: ps, qs, r, h, hl => by
    cases qs with
    | nil => simp [enc, enc1] at h
    | cons q qs =>
      have e1 : enc (p :: ps) ++ r = enc1 p ++ (enc ps ++ r) := by simp [enc]
      have e2 : enc (q :: qs) = enc1 q ++ enc qs := by simp [enc]
      rw [e1, e2] at h
      have hq : q.length ≤ 65535 := by rw [e2, List.length_append, enc1_length] at hl; omega
      have hp : p.length ≤ 65535 := by
        have := congrArg List.length h
        rw [← e2] at this
        rw [List.length_append, enc1_length] at this
        omega
      obtain ⟨_, a1, b1⟩ := first_enc1 p (enc ps ++ r) hp
      obtain ⟨_, a2, b2⟩ := first_enc1 q (enc qs) hq
      rw [h, a2] at a1
      rw [h, b2] at b1
      subst a1
      obtain ⟨qs', rfl, rfl⟩ := enc_split ps qs r b1.symm (by rw [e2, List.length_append] at hl; omega)
      exact ⟨qs', rfl, rfl⟩
theorem enc_inj (ps qs : List (List UInt8)) (h : enc ps = enc qs) (hl : (enc qs).length ≤ 65535) : ps = qs := by
  obtain ⟨qs', rfl, h0⟩ := enc_split ps qs [] (by simpa using h) hl
  rw [(enc_nil_iff qs').1 h0.symm, List.append_nil]
theorem enc_cons (q : List UInt8) (qs : List (List UInt8)) : enc (q :: qs) = enc1 q ++ enc qs := by simp [enc]
theorem firstB_enc (qs : List (List UInt8)) (hne : qs ≠ []) (hl : (enc qs).length ≤ 65535) : firstB (enc qs) = true := by
  cases qs with
  | nil => exact absurd rfl hne
  | cons q qs =>
    rw [enc_cons] at hl ⊢
    exact (first_enc1 q (enc qs) (by rw [List.length_append, enc1_length] at hl; omega)).1
end Go.Proofs.YtjcockcilkiggaaGreat.Wire
