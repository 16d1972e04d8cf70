/- wire.ReadNum and the reference's NumRead: a number out of eight bytes, most significant first. They write nothing that was there. -/
import Derived.Test.YthkhafgcpmoalaaNum
namespace Go.Proofs.Ythkhafgcpmoalaa
open Go.RowKit


theorem num8_snoc (l : Bytes) (b : UInt8) : num8 (l ++ [b]) = 256 * num8 l + b.toNat := by simp [num8]
theorem num8_lt (l : Bytes) : num8 l < 256 ^ l.length := by
  induction l using List.reverseRecOn' with
  | nil => simp [num8]
  | snoc l b ih =>
    rw [num8_snoc, List.length_append, List.length_singleton, Nat.pow_succ]
    have := b.toNat_lt
    omega
theorem take_get (l : Bytes) (k : Nat) (hk : k < l.length) : l.take (k + 1) = l.take k ++ [l[k]?.getD 0] := by
  rw [List.take_succ_eq_append_getElem hk]; simp [hk]
theorem num8_take_lt (l : Bytes) (k : Nat) (hk : k ≤ 7) : num8 (l.take k) < 72057594037927936 := by
  have h1 := num8_lt (l.take k)
  have h2 : (l.take k).length ≤ 7 := by simp; omega
  have h3 : 256 ^ (l.take k).length ≤ 256 ^ 7 := Nat.pow_le_pow_right (by decide) h2
  have h4 : (256 : Nat) ^ 7 = 72057594037927936 := by decide
  omega
theorem or_u64 (n : Nat) (b : UInt8) (h : n < 72057594037927936) : bits .or .u64 ((n : Int) * 256) (IntKind.u64.wrap (b.toNat : Int)) = ((256 * n + b.toNat : Nat) : Int) := by
  have hb := b.toNat_lt
  have e1 : (n : Int) * (256 : Int) = ((n <<< 8 : Nat) : Int) := by rw [Nat.shiftLeft_eq]; omega
  have e2 : IntKind.u64.wrap (b.toNat : Int) = (b.toNat : Int) := by rw [IntKind.wrap_u64]; omega
  rw [e1, e2, u64_or_nat _ _ (by rw [Nat.shiftLeft_eq]; omega) (by omega), ← Nat.shiftLeft_add_eq_or_of_lt (by omega : b.toNat < 2 ^ 8), Nat.shiftLeft_eq]
  omega
theorem mul_u64 (n : Nat) (b : UInt8) (h : n < 72057594037927936) : IntKind.u64.wrap (256 * (n : Int) + IntKind.u64.wrap (b.toNat : Int)) = ((256 * n + b.toNat : Nat) : Int) := by
  have hb := b.toNat_lt
  simp only [IntKind.wrap_u64]
  omega
end Go.Proofs.Ythkhafgcpmoalaa
