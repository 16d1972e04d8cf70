/- wire.ReadNum and the reference's NumRead: a number out of eight bytes, most significant first. They write nothing that was there. -/
import Derived.Test.YtmlgolnfegaihaaNum
namespace Go.Proofs.Ytmlgolnfegaihaa
open Go.RowKit

theorem setRow_new (w : World) (g : Nat) (hg : g = w.heap.size) (cur cs : Array Value) (t : TypeId) : (w.alloc (.cells cur t)).setRow g cs = w.alloc (.cells cs t) := by
  subst hg
  unfold World.setRow World.alloc
  congr 1
  apply Array.ext_getElem?
  intro i
  rw [Array.getElem?_modify]
  rcases Nat.lt_trichotomy i w.heap.size with h | h | h
  · rw [if_neg (by omega), Array.getElem?_push, Array.getElem?_push, if_neg (by omega), if_neg (by omega)]
  · subst h; simp
  · rw [if_neg (by omega), Array.getElem?_eq_none (by simp; omega), Array.getElem?_eq_none (by simp; omega)]

theorem copy_new (w : World) (ty t : TypeId) (cur : Array Value) (l : Bytes) (hl : l.length = cur.size) (n : Nat) (hn : n = l.length) :
    (Builtin.copy_ #[55, 9] ty #[.slice (some ⟨w.heap.size, 0, none⟩) n n, .string (S l)]).run Try.prog (w.alloc (.cells cur t)) = .ok (goInt l.length) (w.alloc (.cells (bcells l).toArray t)) := by
  subst hn
  rw [Lib.run_copy_row_string (P := Try.prog) _ 55 9 ty 5 w.heap.size 0 l.length l.length (S l) cur t Try.underlying55 (by kernel_rfl) (heap_alloc_new w _) (by rw [S_size]; exact Nat.le_refl _) (by rw [S_size]; omega)]
  rw [S_size, setRow_new w _ rfl, S_data]
  have e : cur.toList.take 0 ++ Lib.byteCells l ++ cur.toList.drop (0 + l.length) = bcells l := by
    rw [List.drop_of_length_le (by simp; omega)]
    simp [Lib.byteCells, bcells]
  rw [e]

section
variable (x0 x1 x2 x3 x4 x5 x6 x7 : Value) (w : World)
theorem idx0 : (Instr.index 53 (.agg #[x0, x1, x2, x3, x4, x5, x6, x7]) (.int .i64 0)).run Try.prog w = .ok x0 w := by kernel_rfl
theorem idx1 : (Instr.index 53 (.agg #[x0, x1, x2, x3, x4, x5, x6, x7]) (.int .i64 1)).run Try.prog w = .ok x1 w := by kernel_rfl
theorem idx2 : (Instr.index 53 (.agg #[x0, x1, x2, x3, x4, x5, x6, x7]) (.int .i64 2)).run Try.prog w = .ok x2 w := by kernel_rfl
theorem idx3 : (Instr.index 53 (.agg #[x0, x1, x2, x3, x4, x5, x6, x7]) (.int .i64 3)).run Try.prog w = .ok x3 w := by kernel_rfl
theorem idx4 : (Instr.index 53 (.agg #[x0, x1, x2, x3, x4, x5, x6, x7]) (.int .i64 4)).run Try.prog w = .ok x4 w := by kernel_rfl
theorem idx5 : (Instr.index 53 (.agg #[x0, x1, x2, x3, x4, x5, x6, x7]) (.int .i64 5)).run Try.prog w = .ok x5 w := by kernel_rfl
theorem idx6 : (Instr.index 53 (.agg #[x0, x1, x2, x3, x4, x5, x6, x7]) (.int .i64 6)).run Try.prog w = .ok x6 w := by kernel_rfl
theorem idx7 : (Instr.index 53 (.agg #[x0, x1, x2, x3, x4, x5, x6, x7]) (.int .i64 7)).run Try.prog w = .ok x7 w := by kernel_rfl
/-- The k-th of eight. -/
theorem idx8 (k : Nat) (hk : k < 8) (a b c d e f g h : UInt8) : (Instr.index 53 (.agg #[.int .u8 a.toNat, .int .u8 b.toNat, .int .u8 c.toNat, .int .u8 d.toNat, .int .u8 e.toNat, .int .u8 f.toNat, .int .u8 g.toNat, .int .u8 h.toNat]) (.int .i64 (k : Int))).run Try.prog w = .ok (.int .u8 (([a, b, c, d, e, f, g, h][k]?.getD 0).toNat : Int)) w := by
  have h' : k = 0 ∨ k = 1 ∨ k = 2 ∨ k = 3 ∨ k = 4 ∨ k = 5 ∨ k = 6 ∨ k = 7 := by omega
  rcases h' with rfl | rfl | rfl | rfl | rfl | rfl | rfl | rfl
  · exact idx0 ..
  · exact idx1 ..
  · exact idx2 ..
  · exact idx3 ..
  · exact idx4 ..
  · exact idx5 ..
  · exact idx6 ..
  · exact idx7 ..
end

theorem num8_snoc (l : Bytes) (b : UInt8) : num8 (l ++ [b]) = 256 * num8 l + b.toNat := by simp [num8]
theorem num8_lt (l : Bytes) : num8 l < 256 ^ l.length := by
  induction l using List.reverseRecOn' with
  | nil => simp [num8]
  | snoc l b ih =>
    rw [num8_snoc, List.length_append, List.length_singleton, Nat.pow_succ]
    have := b.toNat_lt
    omega
theorem take_get (l : Bytes) (k : Nat) (hk : k < l.length) : l.take (k + 1) = l.take k ++ [l[k]?.getD 0] := by
  rw [List.take_succ_eq_append_getElem hk]; simp [hk]
theorem num8_take_lt (l : Bytes) (k : Nat) (hk : k ≤ 7) : num8 (l.take k) < 72057594037927936 := by
  have h1 := num8_lt (l.take k)
  have h2 : (l.take k).length ≤ 7 := by simp; omega
  have h3 : 256 ^ (l.take k).length ≤ 256 ^ 7 := Nat.pow_le_pow_right (by decide) h2
  have h4 : (256 : Nat) ^ 7 = 72057594037927936 := by decide
  omega
theorem or_u64 (n : Nat) (b : UInt8) (h : n < 72057594037927936) : bits .or .u64 ((n : Int) * 256) (IntKind.u64.wrap (b.toNat : Int)) = ((256 * n + b.toNat : Nat) : Int) := by
  have hb := b.toNat_lt
  have e1 : (n : Int) * (256 : Int) = ((n <<< 8 : Nat) : Int) := by rw [Nat.shiftLeft_eq]; omega
  have e2 : IntKind.u64.wrap (b.toNat : Int) = (b.toNat : Int) := by rw [IntKind.wrap_u64]; omega
  rw [e1, e2, u64_or_nat _ _ (by rw [Nat.shiftLeft_eq]; omega) (by omega), ← Nat.shiftLeft_add_eq_or_of_lt (by omega : b.toNat < 2 ^ 8), Nat.shiftLeft_eq]
  omega
theorem mul_u64 (n : Nat) (b : UInt8) (h : n < 72057594037927936) : IntKind.u64.wrap (256 * (n : Int) + IntKind.u64.wrap (b.toNat : Int)) = ((256 * n + b.toNat : Nat) : Int) := by
  have hb := b.toNat_lt
  simp only [IntKind.wrap_u64]
  omega
set_option maxRecDepth 100000 in
set_option maxHeartbeats 400000 in
theorem readNum_yes (a b c d e f g h : UInt8) (w : World) :
    Calls Try.prog 22 #[.string (S [a, b, c, d, e, f, g, h])] w fun e' w' => e' = .returned (.tuple #[.int .u64 (num8 [a, b, c, d, e, f, g, h]), .int .i64 0]) ∧ Below w.heap.size w w' := by
  have hcp := fun ty => copy_new w ty 53 #[.int .u8 0, .int .u8 0, .int .u8 0, .int .u8 0, .int .u8 0, .int .u8 0, .int .u8 0, .int .u8 0] [a, b, c, d, e, f, g, h] rfl 8 rfl
  simp only [bcells, List.map_cons, List.map_nil] at hcp
  go_enter Try.func22, Try.ntmps22
  go_wp2
  clear hcp
  go_loop [5, 15] (fun n i => ∃ k : Nat, k ≤ 8 ∧ i = .int .i64 k ∧ n = .int .u64 (num8 ([a, b, c, d, e, f, g, h].take k) : Nat)) (fun _ i => 8 - (intOf i).toNat)
  case atStart => exact ⟨0, Nat.zero_le _, rfl, rfl⟩
  case round =>
    obtain ⟨k, hk, rfl, rfl⟩ := hrel
    by_cases hlt : k < 8
    · have hix := fun W => idx8 W k hlt a b c d e f g h
      have HS : Hid (num8 ([a, b, c, d, e, f, g, h].take (k + 1)) = 256 * num8 ([a, b, c, d, e, f, g, h].take k) + ([a, b, c, d, e, f, g, h][k]?.getD 0).toNat) := by
        show num8 ([a, b, c, d, e, f, g, h].take (k + 1)) = _
        rw [take_get _ k (by simpa using hlt), num8_snoc]
      have hn : num8 ([a, b, c, d, e, f, g, h].take k) < 72057594037927936 := num8_take_lt _ k (by omega)
      generalize [a, b, c, d, e, f, g, h][k]?.getD 0 = x at *
      have hi1 : (k : Int) < 8 := by omega
      generalize num8 ([a, b, c, d, e, f, g, h].take k) = n at *
      go_wp2
      go_round
      case rel => exact ⟨k + 1, by omega, by go_num, by rw [HS.out, or_u64 n x hn]⟩
      case measure => simp [intOf]; omega
    · obtain rfl : k = 8 := by omega
      go_wp2
      go_ret2
      exact ⟨rfl, (Below.refl _ _).alloc (Nat.le_refl _) _⟩

set_option maxHeartbeats 400000 in
theorem readNum_no (l : Bytes) (w : World) (hl : l.length ≠ 8) :
    Calls Try.prog 22 #[.string (S l)] w fun e' w' => e' = .returned (.tuple #[.int .u64 0, .int .i64 3]) ∧ w = w' := by
  have hne : ((l.length : Int) != 8) = true := by simp; omega
  clear hl
  go_enter Try.func22, Try.ntmps22
  go_wp2
  go_ret2
  exact ⟨rfl, rfl⟩
set_option maxRecDepth 100000 in
set_option maxHeartbeats 400000 in
theorem numRead_yes (l : Bytes) (w : World) (hl : l.length = 8) :
    Calls Try.prog 15 #[.string (S l)] w fun e' w' => e' = .returned (.tuple #[.int .u64 (num8 l), .bool true]) ∧ w = w' := by
  have hne : ((l.length : Int) != 8) = false := by simp; omega
  have HL := Lib.hid hl
  have hl1 : 8 ≤ l.length := by omega
  clear hl
  go_enter Try.func15, Try.ntmps15
  go_wp2
  go_loop [4, 9] (fun n i => ∃ k : Nat, k ≤ 8 ∧ i = .int .i64 k ∧ n = .int .u64 (num8 (l.take k) : Nat)) (fun _ i => 8 - (intOf i).toNat)
  case atStart => exact ⟨0, Nat.zero_le _, rfl, rfl⟩
  case round =>
    obtain ⟨k, hk, rfl, rfl⟩ := hrel
    by_cases hlt : k < 8
    · have hi1 : (k : Int) < (l.length : Int) := by omega
      have hi2 : k < l.length := by omega
      have HS : Hid (num8 (l.take (k + 1)) = 256 * num8 (l.take k) + l[k].toNat) := by
        show num8 (l.take (k + 1)) = _
        rw [List.take_succ_eq_append_getElem hi2, num8_snoc]
      have hn : num8 (l.take k) < 72057594037927936 := num8_take_lt _ k (by omega)
      generalize num8 (l.take k) = n at *
      go_wp2
      go_round
      case rel => exact ⟨k + 1, by omega, by go_num, by rw [HS.out]; rw [mul_u64 n _ hn]⟩
      case measure => simp [intOf]; omega
    · obtain rfl : k = 8 := by omega
      have e : l.take 8 = l := List.take_of_length_le (by have := HL.out; omega)
      rw [e]
      clear e
      go_wp2
      go_ret2
      exact ⟨rfl, rfl⟩

set_option maxHeartbeats 400000 in
theorem numRead_no (l : Bytes) (w : World) (hl : l.length ≠ 8) :
    Calls Try.prog 15 #[.string (S l)] w fun e' w' => e' = .returned (.tuple #[.int .u64 0, .bool false]) ∧ w = w' := by
  have hne : ((l.length : Int) != 8) = true := by simp; omega
  clear hl
  go_enter Try.func15, Try.ntmps15
  go_wp2
  go_ret2
  exact ⟨rfl, rfl⟩
end Go.Proofs.Ytmlgolnfegaihaa
