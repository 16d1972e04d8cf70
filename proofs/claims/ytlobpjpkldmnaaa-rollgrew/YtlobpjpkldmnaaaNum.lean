/- wire.Num and the reference's Num: a number in eight bytes, most significant first. They write nothing that was there. -/
import Derived.Test.YtlobpjpkldmnaaaKit
import Derived.Handy
import Derived.Lib.BufferWrite
namespace Go.Proofs.Ytlobpjpkldmnaaa
open Go.RowKit

/-- Eight bytes, most significant first. -/
def be8 (n : Nat) : Bytes :=
  [UInt8.ofNat (n / 72057594037927936), UInt8.ofNat (n / 281474976710656), UInt8.ofNat (n / 1099511627776), UInt8.ofNat (n / 4294967296), UInt8.ofNat (n / 16777216), UInt8.ofNat (n / 65536), UInt8.ofNat (n / 256), UInt8.ofNat n]

theorem conv_new (w : World) (g : Nat) (hg : g = w.heap.size) (zs : List Int) (m : Nat) (hm : zs.length = m) (t : TypeId) :
    (convert 69 9 (.slice (some ⟨g, 0, none⟩) m m)).run Try.prog (w.alloc (.cells (zs.map (Value.int .u8)).toArray t)) = .ok (.string (S (zs.map fun z => UInt8.ofNat z.toNat))) (w.alloc (.cells (zs.map (Value.int .u8)).toArray t)) := by
  subst hg
  rw [run_convert_bytes_arg (P := Try.prog) _ 69 5 Try.underlying69 Try.underlying5 w.heap.size 0 m m zs hm (fun i hi => by
    rw [Nat.zero_add, World.cell?_alloc_new]
    simp [List.getD, show i < zs.length by omega]) 9 Try.underlying9]
  rfl

theorem ofNat_congr {a b : Nat} (h : a % 256 = b % 256) : UInt8.ofNat a = UInt8.ofNat b := by
  apply UInt8.toNat_inj.1
  simpa using h

set_option maxRecDepth 100000 in
theorem num_conv (n : Nat) (w : World) :
    (convert 69 9 (.slice (some ⟨w.heap.size, 0, none⟩) 8 8)).run Try.prog (w.alloc (.cells #[.int .u8 ((n : Int) / 256 / 256 / 256 / 256 / 256 / 256 / 256), .int .u8 ((n : Int) / 256 / 256 / 256 / 256 / 256 / 256 % 256), .int .u8 ((n : Int) / 256 / 256 / 256 / 256 / 256 % 256), .int .u8 ((n : Int) / 256 / 256 / 256 / 256 % 256), .int .u8 ((n : Int) / 256 / 256 / 256 % 256), .int .u8 ((n : Int) / 256 / 256 % 256), .int .u8 ((n : Int) / 256 % 256), .int .u8 ((n : Int) % 256)] 78)) =
      .ok (.string (S (be8 n))) (w.alloc (.cells #[.int .u8 ((n : Int) / 256 / 256 / 256 / 256 / 256 / 256 / 256), .int .u8 ((n : Int) / 256 / 256 / 256 / 256 / 256 / 256 % 256), .int .u8 ((n : Int) / 256 / 256 / 256 / 256 / 256 % 256), .int .u8 ((n : Int) / 256 / 256 / 256 / 256 % 256), .int .u8 ((n : Int) / 256 / 256 / 256 % 256), .int .u8 ((n : Int) / 256 / 256 % 256), .int .u8 ((n : Int) / 256 % 256), .int .u8 ((n : Int) % 256)] 78)) := by
  have h := conv_new w _ rfl [(n : Int) / 256 / 256 / 256 / 256 / 256 / 256 / 256, (n : Int) / 256 / 256 / 256 / 256 / 256 / 256 % 256, (n : Int) / 256 / 256 / 256 / 256 / 256 % 256, (n : Int) / 256 / 256 / 256 / 256 % 256, (n : Int) / 256 / 256 / 256 % 256, (n : Int) / 256 / 256 % 256, (n : Int) / 256 % 256, (n : Int) % 256] 8 rfl 78
  simp only [List.map_cons, List.map_nil] at h
  rw [h]
  have e : ∀ a b : Bytes, a = b → (Result.ok (Value.string (S a)) (w.alloc (.cells #[.int .u8 ((n : Int) / 256 / 256 / 256 / 256 / 256 / 256 / 256), .int .u8 ((n : Int) / 256 / 256 / 256 / 256 / 256 / 256 % 256), .int .u8 ((n : Int) / 256 / 256 / 256 / 256 / 256 % 256), .int .u8 ((n : Int) / 256 / 256 / 256 / 256 % 256), .int .u8 ((n : Int) / 256 / 256 / 256 % 256), .int .u8 ((n : Int) / 256 / 256 % 256), .int .u8 ((n : Int) / 256 % 256), .int .u8 ((n : Int) % 256)] 78))) = .ok (.string (S b)) _ := fun a b h => by rw [h]
  apply e
  unfold be8
  congr 1
  · exact ofNat_congr (by omega)
  congr 1
  · exact ofNat_congr (by omega)
  congr 1
  · exact ofNat_congr (by omega)
  congr 1
  · exact ofNat_congr (by omega)
  congr 1
  · exact ofNat_congr (by omega)
  congr 1
  · exact ofNat_congr (by omega)
  congr 1
  · exact ofNat_congr (by omega)
  congr 1
  exact ofNat_congr (by omega)

set_option maxRecDepth 100000 in
set_option maxHeartbeats 400000 in
theorem num_any (n : Nat) (w : World) (hn : n < 18446744073709551616) :
    Calls Try.prog 47 #[.int .u64 (n : Int)] w fun e w' => e = .returned (.string (S (be8 n))) ∧ Below w.heap.size w w' := by
  have hcv := num_conv n w
  go_enter Try.func47, Try.ntmps47
  go_wp2
  go_rounds 9
  go_ret
  exact ⟨rfl, (Below.refl _ _).alloc (Nat.le_refl _) _⟩

theorem conv_one (w : World) (g : Nat) (hg : g = w.heap.size) (z : Int) (t : TypeId) :
    (convert 69 9 (.slice (some ⟨g, 0, none⟩) 1 1)).run Try.prog (w.alloc (.cells #[.int .u8 z] t)) = .ok (.string (S [UInt8.ofNat z.toNat])) (w.alloc (.cells #[.int .u8 z] t)) :=
  conv_new w g hg [z] 1 rfl t

theorem be8_ref (n : Nat) : S [UInt8.ofNat (n / 256 / 256 / 256 / 256 / 256 / 256 / 256 % 256)] ++ (S [UInt8.ofNat (n / 256 / 256 / 256 / 256 / 256 / 256 % 256)] ++ (S [UInt8.ofNat (n / 256 / 256 / 256 / 256 / 256 % 256)] ++ (S [UInt8.ofNat (n / 256 / 256 / 256 / 256 % 256)] ++ (S [UInt8.ofNat (n / 256 / 256 / 256 % 256)] ++ (S [UInt8.ofNat (n / 256 / 256 % 256)] ++ (S [UInt8.ofNat (n / 256 % 256)] ++ (S [UInt8.ofNat (n % 256)] ++ ⟨#[]⟩))))))) = S (be8 n) := by
  rw [← S_nil]
  simp only [S_append, List.cons_append, List.nil_append, be8]
  rw [ofNat_congr (a := n / 256 / 256 / 256 / 256 / 256 / 256 / 256 % 256) (b := n / 72057594037927936) (by omega), ofNat_congr (a := n / 256 / 256 / 256 / 256 / 256 / 256 % 256) (b := n / 281474976710656) (by omega), ofNat_congr (a := n / 256 / 256 / 256 / 256 / 256 % 256) (b := n / 1099511627776) (by omega),
    ofNat_congr (a := n / 256 / 256 / 256 / 256 % 256) (b := n / 4294967296) (by omega), ofNat_congr (a := n / 256 / 256 / 256 % 256) (b := n / 16777216) (by omega), ofNat_congr (a := n / 256 / 256 % 256) (b := n / 65536) (by omega), ofNat_congr (a := n / 256 % 256) (b := n / 256) (by omega), ofNat_congr (a := n % 256) (b := n) (by omega)]

set_option maxRecDepth 100000 in
set_option maxHeartbeats 400000 in
theorem refNum_any (n : Nat) (w : World) (hn : n < 18446744073709551616) :
    Calls Try.prog 44 #[.int .u64 (n : Int)] w fun e w' => e = .returned (.string (S (be8 n))) ∧ Below w.heap.size w w' := by
  have hcv := conv_one
  go_enter Try.func44, Try.ntmps44
  go_wp2
  go_rounds 9
  go_ret
  exact ⟨congrArg (fun s => Ending.returned (.string s)) (be8_ref n), by go_grown⟩

theorem List.reverseRecOn' {α : Type} {P : List α → Prop} (nil : P []) (snoc : ∀ l b, P l → P (l ++ [b])) (l : List α) : P l := by
  rw [← List.reverse_reverse l]
  induction l.reverse with
  | nil => exact nil
  | cons a t ih => rw [List.reverse_cons]; exact snoc _ _ ih

/-- Eight bytes as a number. -/
def num8 : Bytes → Nat := List.foldl (fun n b => 256 * n + b.toNat) 0

theorem num8_be8 (n : Nat) (h : n < 18446744073709551616) : num8 (be8 n) = n := by
  simp only [num8, be8, List.foldl_cons, List.foldl_nil, UInt8.toNat_ofNat']
  omega

theorem be8_inj {n m : Nat} (hn : n < 18446744073709551616) (hm : m < 18446744073709551616) (h : be8 n = be8 m) : n = m := by
  rw [← num8_be8 n hn, h, num8_be8 m hm]
theorem be8_length (n : Nat) : (be8 n).length = 8 := rfl
end Go.Proofs.Ytlobpjpkldmnaaa
