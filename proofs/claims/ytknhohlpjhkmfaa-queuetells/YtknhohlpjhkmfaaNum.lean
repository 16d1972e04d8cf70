/- wire.Num and the reference's Num: a number in eight bytes, most significant first. They write nothing that was there. -/
import Derived.Test.YtknhohlpjhkmfaaKit
import Derived.Handy
import Derived.Lib.BufferWrite
namespace Go.Proofs.Ytknhohlpjhkmfaa
open Go.RowKit

/-- Eight bytes, most significant first. -/
def be8 (n : Nat) : Bytes :=
  [UInt8.ofNat (n / 72057594037927936), UInt8.ofNat (n / 281474976710656), UInt8.ofNat (n / 1099511627776), UInt8.ofNat (n / 4294967296), UInt8.ofNat (n / 16777216), UInt8.ofNat (n / 65536), UInt8.ofNat (n / 256), UInt8.ofNat n]

theorem ofNat_congr {a b : Nat} (h : a % 256 = b % 256) : UInt8.ofNat a = UInt8.ofNat b := by
  apply UInt8.toNat_inj.1
  simpa using h

theorem be8_ref (n : Nat) : S [UInt8.ofNat (n / 256 / 256 / 256 / 256 / 256 / 256 / 256 % 256)] ++ (S [UInt8.ofNat (n / 256 / 256 / 256 / 256 / 256 / 256 % 256)] ++ (S [UInt8.ofNat (n / 256 / 256 / 256 / 256 / 256 % 256)] ++ (S [UInt8.ofNat (n / 256 / 256 / 256 / 256 % 256)] ++ (S [UInt8.ofNat (n / 256 / 256 / 256 % 256)] ++ (S [UInt8.ofNat (n / 256 / 256 % 256)] ++ (S [UInt8.ofNat (n / 256 % 256)] ++ (S [UInt8.ofNat (n % 256)] ++ ⟨#[]⟩))))))) = S (be8 n) := by
  rw [← S_nil]
  simp only [S_append, List.cons_append, List.nil_append, be8]
  rw [ofNat_congr (a := n / 256 / 256 / 256 / 256 / 256 / 256 / 256 % 256) (b := n / 72057594037927936) (by omega), ofNat_congr (a := n / 256 / 256 / 256 / 256 / 256 / 256 % 256) (b := n / 281474976710656) (by omega), ofNat_congr (a := n / 256 / 256 / 256 / 256 / 256 % 256) (b := n / 1099511627776) (by omega),
    ofNat_congr (a := n / 256 / 256 / 256 / 256 % 256) (b := n / 4294967296) (by omega), ofNat_congr (a := n / 256 / 256 / 256 % 256) (b := n / 16777216) (by omega), ofNat_congr (a := n / 256 / 256 % 256) (b := n / 65536) (by omega), ofNat_congr (a := n / 256 % 256) (b := n / 256) (by omega), ofNat_congr (a := n % 256) (b := n) (by omega)]


theorem List.reverseRecOn' {α : Type} {P : List α → Prop} (nil : P []) (snoc : ∀ l b, P l → P (l ++ [b])) (l : List α) : P l := by
  rw [← List.reverse_reverse l]
  induction l.reverse with
  | nil => exact nil
  | cons a t ih => rw [List.reverse_cons]; exact snoc _ _ ih

/-- Eight bytes as a number. -/
def num8 : Bytes → Nat := List.foldl (fun n b => 256 * n + b.toNat) 0

theorem num8_be8 (n : Nat) (h : n < 18446744073709551616) : num8 (be8 n) = n := by
  simp only [num8, be8, List.foldl_cons, List.foldl_nil, UInt8.toNat_ofNat']
  omega

theorem be8_inj {n m : Nat} (hn : n < 18446744073709551616) (hm : m < 18446744073709551616) (h : be8 n = be8 m) : n = m := by
  rw [← num8_be8 n hn, h, num8_be8 m hm]
theorem be8_length (n : Nat) : (be8 n).length = 8 := rfl
end Go.Proofs.Ytknhohlpjhkmfaa
