/- Names, paths and their order on lists of bytes. No program in this text. -/
import Derived.Test.YteclnibbgdbjfaaHash
namespace Go.Proofs.Yteclnibbgdbjfaa.Bin

def nameByte (c : UInt8) : Bool := (decide (97 ≤ c.toNat) && decide (c.toNat ≤ 122)) || (decide (48 ≤ c.toNat) && decide (c.toNat ≤ 57))
/-- A name. -/
def name (l : List UInt8) : Bool := decide (1 ≤ l.length) && decide (l.length ≤ 12) && l.all nameByte
def bitByte (c : UInt8) : Bool := c.toNat == 48 || c.toNat == 49
/-- A path. -/
def path (l : List UInt8) : Bool := l.length == 16 && l.all bitByte

def digit (n : Nat) : UInt8 := UInt8.ofNat (48 + n % 2)
/-- The k lowest bits, the most significant first. -/
def low : Nat → Nat → List UInt8
  | 0, _ => []
  | k + 1, n => low k (n / 2) ++ [digit n]

theorem low_length (k n : Nat) : (low k n).length = k := by
  induction k generalizing n with
  | zero => rfl
  | succ k ih => simp [low, ih]
theorem digit_bit (n : Nat) : bitByte (digit n) = true := by
  have h : (digit n).toNat = 48 + n % 2 := by
    unfold digit
    rw [UInt8.toNat_ofNat']
    omega
  unfold bitByte
  rw [h]
  have : n % 2 < 2 := Nat.mod_lt _ (by decide)
  rcases (by omega : n % 2 = 0 ∨ n % 2 = 1) with h | h <;> simp [h]
theorem digit_toNat (n : Nat) : (digit n).toNat = 48 + n % 2 := by
  unfold digit
  rw [UInt8.toNat_ofNat']
  omega
theorem low_bits (k n : Nat) : (low k n).all bitByte = true := by
  induction k generalizing n with
  | zero => rfl
  | succ k ih => simp [low, ih, digit_bit]
/-- One more bit, in front. -/
theorem low_front (k n : Nat) : low (k + 1) n = digit (n / 2 ^ k) :: low k n := by
  induction k generalizing n with
  | zero => simp [low]
  | succ k ih =>
    rw [low, ih, low]
    rw [Nat.div_div_eq_div_mul, Nat.pow_succ, Nat.mul_comm 2]
    rfl

/-- The path of a name. -/
def of (l : List UInt8) : List UInt8 := low 16 (Hash.of l)
theorem of_length (l : List UInt8) : (of l).length = 16 := low_length _ _
theorem of_path (l : List UInt8) : path (of l) = true := by
  have h1 := of_length l
  have h2 : (of l).all bitByte = true := low_bits _ _
  generalize of l = p at *
  simp [path, h1, h2]
theorem name_len {l : List UInt8} (h : name l = true) : 1 ≤ l.length ∧ l.length ≤ 12 := by
  simp only [name, Bool.and_eq_true, decide_eq_true_eq] at h
  exact h.1
end Go.Proofs.Yteclnibbgdbjfaa.Bin
