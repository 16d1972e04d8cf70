/- What head.Read returns, for whatever string: the head whose preimage it is, or nothing. -/
import Derived.Test.YthkhafgcpmoalaaHeadRead
namespace Go.Proofs.Ythkhafgcpmoalaa
set_option maxRecDepth 100000
open Go.RowKit

theorem be8_num8 (l : Bytes) (h : l.length = 8) : be8 (num8 l) = l := by
  match l, h with
  | [a, b, c, d, e, f, g, i], _ =>
    have h1 := a.toNat_lt
    have h2 := b.toNat_lt
    have h3 := c.toNat_lt
    have h4 := d.toNat_lt
    have h5 := e.toNat_lt
    have h6 := f.toNat_lt
    have h7 := g.toNat_lt
    have h8 := i.toNat_lt
    simp only [num8, be8, List.foldl_cons, List.foldl_nil, List.cons.injEq, and_true]
    refine ⟨?_, ?_, ?_, ?_, ?_, ?_, ?_, ?_⟩ <;> apply UInt8.toNat_inj.1 <;> rw [UInt8.toNat_ofNat'] <;> omega
/-- A string that is the preimage of a valid head. -/
structure HRight (l : Bytes) : Prop where
  len : l.length = 33
  kind : l.take 1 = [3]
  ok : hfault (hnums l) = 0
theorem num8_small (l : Bytes) (h : l.length ≤ 8) : num8 l < 18446744073709551616 :=
  Nat.lt_of_lt_of_le (num8_lt l) (Nat.le_trans (Nat.pow_le_pow_right (by omega) h) (by decide))
theorem wrap_small (n : Nat) (h : n < 9223372036854775808) : IntKind.i64.wrap (n : Int) = (n : Int) := by rw [IntKind.wrap_i64]; omega
theorem wrap_big (n : Nat) (h : n < 18446744073709551616) (h0 : 0 ≤ IntKind.i64.wrap (n : Int)) : IntKind.i64.wrap (n : Int) = (n : Int) := by
  rw [IntKind.wrap_i64] at *
  omega
theorem hright_said {h : Hd} (hg : HGood h) : HRight (hsaid h) ∧ hnums (hsaid h) = h := by
  obtain ⟨ep, rt, pv, tm⟩ := h
  obtain ⟨e0, e1, r, p, t0, t1, z⟩ := id hg
  dsimp only at e0 e1 r p t0 t1
  obtain ⟨n, rfl⟩ := Int.eq_ofNat_of_zero_le e0
  obtain ⟨m, rfl⟩ := Int.eq_ofNat_of_zero_le t0
  have a0 : (hsaid ((n : Int), rt, pv, (m : Int))).tail.take 8 = be8 n := rfl
  have a1 : ((hsaid ((n : Int), rt, pv, (m : Int))).drop 9).take 8 = be8 rt := rfl
  have a2 : ((hsaid ((n : Int), rt, pv, (m : Int))).drop 17).take 8 = be8 pv := rfl
  have a3 : ((hsaid ((n : Int), rt, pv, (m : Int))).drop 25).take 8 = be8 m := rfl
  have hn : hnums (hsaid ((n : Int), rt, pv, (m : Int))) = ((n : Int), rt, pv, (m : Int)) := by
    rw [hnums, a0, a1, a2, a3, num8_be8 n (by omega), num8_be8 rt (by omega), num8_be8 pv (by omega), num8_be8 m (by omega), wrap_small n (by omega), wrap_small m (by omega)]
  exact ⟨⟨hsaid_length _, rfl, by rw [hn]; exact (hfault_ok _).2 hg⟩, hn⟩
theorem cut33 (l : Bytes) (h : l.length = 33) : l = l.take 1 ++ (l.tail.take 8 ++ (l.drop 9).take 8 ++ (l.drop 17).take 8 ++ (l.drop 25).take 8) := by
  have e3 : (l.drop 25).take 8 = l.drop 25 := List.take_of_length_le (by rw [List.length_drop]; omega)
  have e2 : l.drop 17 = (l.drop 17).take 8 ++ l.drop 25 := by
    conv => lhs; rw [← List.take_append_drop 8 (l.drop 17), List.drop_drop]
  have e1 : l.drop 9 = (l.drop 9).take 8 ++ l.drop 17 := by
    conv => lhs; rw [← List.take_append_drop 8 (l.drop 9), List.drop_drop]
  have e0 : l.drop 1 = (l.drop 1).take 8 ++ l.drop 9 := by
    conv => lhs; rw [← List.take_append_drop 8 (l.drop 1), List.drop_drop]
  rw [e3, ← List.drop_one]
  conv => lhs; rw [← List.take_append_drop 1 l, e0, e1, e2]
  simp only [List.append_assoc]
theorem hsaid_nums {l : Bytes} (h : HRight l) : hsaid (hnums l) = l := by
  obtain ⟨hl, hk, hg⟩ := h
  obtain ⟨e0, e1, r, p, t0, t1, z⟩ := (hfault_ok _).1 hg
  have w0 : IntKind.i64.wrap (num8 (l.tail.take 8) : Int) = _ := wrap_big _ (num8_small _ (by rw [List.length_take]; omega)) e0
  have w3 : IntKind.i64.wrap (num8 ((l.drop 25).take 8) : Int) = _ := wrap_big _ (num8_small _ (by rw [List.length_take]; omega)) t0
  have c := cut33 l hl
  rw [hk] at c
  conv => rhs; rw [c]
  rw [hsaid, hnums]
  dsimp only
  rw [w0, w3, Int.toNat_natCast, Int.toNat_natCast, be8_num8 _ (by rw [List.length_take, List.length_tail]; omega), be8_num8 _ (by rw [List.length_take, List.length_drop]; omega), be8_num8 _ (by rw [List.length_take, List.length_drop]; omega), be8_num8 _ (by rw [List.length_take, List.length_drop]; omega)]
  rfl

end Go.Proofs.Ythkhafgcpmoalaa
