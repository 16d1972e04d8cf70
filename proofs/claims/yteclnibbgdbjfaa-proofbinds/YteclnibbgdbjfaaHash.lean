/- Plain arithmetic: the hash of a list of bytes from the front on, and by powers from the end on. No program in this text. -/
namespace Go.Proofs.Yteclnibbgdbjfaa.Hash

abbrev M : Nat := 2305843009213693951
abbrev B : Nat := 1099511628211

def step (h : Nat) (c : UInt8) : Nat := (h * B + c.toNat + 1) % M
def go (h : Nat) (l : List UInt8) : Nat := l.foldl step h
/-- The hash. -/
def of (l : List UInt8) : Nat := go 1 l
/-- The base's power. -/
def pw : Nat → Nat
  | 0 => 1
  | n + 1 => pw n * B % M
/-- What the bytes alone add. -/
def sum : List UInt8 → Nat
  | [] => 0
  | c :: l => (sum l + pw l.length * (c.toNat + 1)) % M

theorem pw_lt (n : Nat) : pw n < M := by
  cases n with
  | zero => decide
  | succ n => exact Nat.mod_lt _ (by decide)
theorem sum_lt (l : List UInt8) : sum l < M := by
  cases l with
  | nil => decide
  | cons c l => exact Nat.mod_lt _ (by decide)
theorem step_lt (h : Nat) (c : UInt8) : step h c < M := Nat.mod_lt _ (by decide)
theorem step_eq (h : Nat) (c : UInt8) : step h c = (h * B % M + c.toNat + 1) % M := by
  unfold step
  rw [Nat.add_assoc, Nat.add_assoc, Nat.mod_add_mod]
theorem go_lt (h : Nat) (l : List UInt8) (hh : h < M) : go h l < M := by
  induction l generalizing h with
  | nil => exact hh
  | cons c l ih => exact ih _ (step_lt h c)
theorem of_lt (l : List UInt8) : of l < M := go_lt _ _ (by decide)

theorem k1 (x p s : Nat) : (x % M * p + s) % M = (x * p + s) % M := by rw [Nat.add_mod, Nat.mod_mul_mod, ← Nat.add_mod]
theorem k2 (h x y : Nat) : (h * (x % M) + y % M) % M = (h * x + y) % M := by rw [Nat.add_mod, Nat.mul_mod_mod, Nat.mod_mod, ← Nat.add_mod]

theorem go_eq (h : Nat) (l : List UInt8) (hh : h < M) : go h l = (h * pw l.length + sum l) % M := by
  induction l generalizing h with
  | nil => simp only [go, List.foldl_nil, List.length_nil, pw, sum, Nat.mul_one, Nat.add_zero]; rw [Nat.mod_eq_of_lt hh]
  | cons c l ih =>
    show go (step h c) l = _
    rw [ih _ (step_lt h c)]
    simp only [step, List.length_cons, pw, sum]
    rw [k1, k2]
    congr 1
    rw [Nat.add_assoc (h * B), Nat.add_mul, Nat.mul_assoc h, Nat.mul_comm B, Nat.mul_comm (c.toNat + 1)]
    omega
theorem of_eq (l : List UInt8) : of l = (sum l + pw l.length) % M := by
  unfold of
  rw [go_eq 1 l (by decide), Nat.one_mul, Nat.add_comm]
theorem of_append (a b : List UInt8) : of (a ++ b) = go (of a) b := by simp [of, go]
theorem of_join (a b : List UInt8) : (of a * pw b.length % M + of b + (M - pw b.length)) % M = of (a ++ b) := by
  have h1 := pw_lt b.length
  have h2 := sum_lt b
  rw [of_append, go_eq _ _ (of_lt a), of_eq b]
  generalize of a * pw b.length = x
  generalize pw b.length = p at *
  generalize sum b = s at *
  unfold M at *
  omega
theorem of_snoc (l : List UInt8) (c : UInt8) : of (l ++ [c]) = step (of l) c := by
  unfold of go
  rw [List.foldl_append, List.foldl_cons, List.foldl_nil]
theorem of_back (s t u : List UInt8) (h : of s = of t) : of (s ++ u) = of (t ++ u) := by rw [of_append, of_append, h]
theorem cancel (p a b : Nat) (ha : a < 2305843009213693951) (hb : b < 2305843009213693951) (h : (a + p) % 2305843009213693951 = (b + p) % 2305843009213693951) : a = b := by omega
theorem of_front (s t u : List UInt8) (hl : s.length = t.length) (h : of s = of t) : of (u ++ s) = of (u ++ t) := by
  have h1 := pw_lt t.length
  have h2 := sum_lt s
  have h3 := sum_lt t
  rw [of_eq s, of_eq t, hl] at h
  rw [of_append, of_append, go_eq _ _ (of_lt u), go_eq _ _ (of_lt u), hl]
  rw [cancel _ _ _ h2 h3 h]
theorem drop_sum (l : List UInt8) (k : Nat) (hk : k < l.length) : sum (l.drop k) = (sum (l.drop (k + 1)) + pw (l.length - (k + 1)) * (l[k].toNat + 1)) % M := by
  rw [List.drop_eq_getElem_cons hk, sum, List.length_drop]

/-- The product by its digits in base 2^61. -/
theorem times_eq (a b : Nat) (ha : a < M) (hb : b < M) :
    a * b / 18446744073709551616 < 288230376151711744 ∧ (a * b / 18446744073709551616 * 8 + a * b % 18446744073709551616 / 2305843009213693952 + a * b % 18446744073709551616 % 2305843009213693952) % M = a * b % M := by
  have h : a * b ≤ 2305843009213693950 * 2305843009213693950 := Nat.mul_le_mul (by unfold M at ha; omega) (by unfold M at hb; omega)
  generalize a * b = x at *
  unfold M
  omega
/-- One step of the product bit by bit. -/
theorem bit_step (o a b : Nat) : (((o + a) % M) + (2 * a % M) * (b / 2)) % M = (o + a * (2 * (b / 2) + 1)) % M ∧ (o + (2 * a % M) * (b / 2)) % M = (o + a * (2 * (b / 2))) % M := by
  constructor
  · rw [Nat.add_comm ((o + a) % M), k1, Nat.add_mod_mod]
    congr 1
    rw [Nat.mul_add, Nat.mul_one, Nat.mul_right_comm 2 a, Nat.mul_comm (2 * (b / 2)) a]
    omega
  · rw [Nat.add_comm o, k1, Nat.mul_right_comm 2 a, Nat.mul_comm (2 * (b / 2)) a, Nat.add_comm]
end Go.Proofs.Yteclnibbgdbjfaa.Hash
