/- Package head: Read returns the head with a preimage. It writes nothing that was there. -/
import Derived.Test.YtmlgolnfegaihaaHead
import Derived.Test.YtmlgolnfegaihaaNumBack
namespace Go.Proofs.Ytmlgolnfegaihaa
set_option maxRecDepth 100000
open Go.RowKit

theorem cell_grown (w : World) (g o : Nat) (v : Value) : w.grownBy (w.setCell ⟨g, o, none⟩ v) (some g) :=
  ⟨rfl, rfl, rfl, by simp [World.setCell], fun k _ hk => Below.heap_setCell w ⟨g, o, none⟩ v k (fun e => hk (by rw [e]))⟩
/-- The numbers that a string of 33 bytes holds. -/
def hnums (l : Bytes) : Hd := (IntKind.i64.wrap (num8 (l.tail.take 8) : Int), num8 ((l.drop 9).take 8), num8 ((l.drop 17).take 8), IntKind.i64.wrap (num8 ((l.drop 25).take 8) : Int))
theorem readNum_of (l : Bytes) (w : World) (hl : l.length = 8) :
    Calls Try.prog 22 #[.string (S l)] w fun e' w' => e' = .returned (.tuple #[.int .u64 (num8 l), .int .i64 0]) ∧ Below w.heap.size w w' := by
  match l, hl with
  | [a, b, c, d, e, f, g, h], _ => exact readNum_yes a b c d e f g h w

set_option maxHeartbeats 1000000 in
theorem headRead_len (l : Bytes) (w : World) (hl : l.length ≠ 33) :
    Calls Try.prog 10 #[.string (S l)] w fun e w' => e = .returned (.tuple #[.agg #[.int .i64 0, .int .u64 0, .int .u64 0, .int .i64 0], .int .i64 3]) ∧ Below w.heap.size w w' := by
  have c1 : ((l.length : Int) != 33) = true := by simp; omega
  have hz0 := Bx.new w _ rfl _ [.int .i64 0, .int .u64 0, .int .u64 0, .int .i64 0] 24 rfl
  have hb0 : Below w.heap.size w (w.alloc (.cells #[.int .i64 0, .int .u64 0, .int .u64 0, .int .i64 0] 24)) := (Below.refl _ _).alloc (Nat.le_refl _) _
  obtain ⟨⟨z0, z1, z2, z3⟩, ⟨e0, e1, e2, e3⟩⟩ := hz0.get4
  clear hz0 hl
  go_enter Try.func10, Try.ntmps10
  go_wp2
  generalize w.alloc (.cells #[.int .i64 0, .int .u64 0, .int .u64 0, .int .i64 0] 24) = w9 at *
  refine bodyPost_ret (v := .tuple #[.agg #[.int .i64 0, .int .u64 0, .int .u64 0, .int .i64 0], .int .i64 3]) ?_ rfl ⟨rfl, hb0⟩
  rw [results_cell_tmp rfl]
  go_simp

set_option maxHeartbeats 1000000 in
theorem headRead_kind (l : Bytes) (w : World) (hl : l.length = 33) (hk : l.take 1 ≠ [3]) :
    Calls Try.prog 10 #[.string (S l)] w fun e w' => e = .returned (.tuple #[.agg #[.int .i64 0, .int .u64 0, .int .u64 0, .int .i64 0], .int .i64 3]) ∧ Below w.heap.size w w' := by
  have c1 : ((l.length : Int) != 33) = false := by simp; omega
  have c2 : (1 : Nat) ≤ l.length := by omega
  have c3 : (l.take 1 == [3]) = false := beq_eq_false_iff_ne.2 hk
  have hz0 := Bx.new w _ rfl _ [.int .i64 0, .int .u64 0, .int .u64 0, .int .i64 0] 24 rfl
  have hb0 : Below w.heap.size w (w.alloc (.cells #[.int .i64 0, .int .u64 0, .int .u64 0, .int .i64 0] 24)) := (Below.refl _ _).alloc (Nat.le_refl _) _
  obtain ⟨⟨z0, z1, z2, z3⟩, ⟨e0, e1, e2, e3⟩⟩ := hz0.get4
  clear hz0 hl hk
  go_enter Try.func10, Try.ntmps10
  go_wp2
  generalize w.alloc (.cells #[.int .i64 0, .int .u64 0, .int .u64 0, .int .i64 0] 24) = w9 at *
  refine bodyPost_ret (v := .tuple #[.agg #[.int .i64 0, .int .u64 0, .int .u64 0, .int .i64 0], .int .i64 3]) ?_ rfl ⟨rfl, hb0⟩
  rw [results_cell_tmp rfl]
  go_simp

set_option maxHeartbeats 400000 in
theorem headRead_bad (l : Bytes) (w : World) (hl : l.length = 33) (hk : l.take 1 = [3]) (p0 : Int) (n1 n2 : Nat) (p3 : Int) (hn : hnums l = (p0, n1, n2, p3)) (hg : hfault (p0, n1, n2, p3) ≠ 0) :
    Calls Try.prog 10 #[.string (S l)] w fun e w' => e = .returned (.tuple #[.agg #[.int .i64 0, .int .u64 0, .int .u64 0, .int .i64 0], .int .i64 3]) ∧ Below w.heap.size w w' := by
  have c1 : ((l.length : Int) != 33) = false := by simp; omega
  have c2 : (1 : Nat) ≤ l.length := by omega
  have c3 : (l.take 1 == [3]) = true := beq_iff_eq.2 hk
  have c4 : (9 : Nat) ≤ l.length := by omega
  have c5 : (17 : Nat) ≤ l.length := by omega
  have c6 : (25 : Nat) ≤ l.length := by omega
  have c7 : (33 : Nat) ≤ l.length := by omega
  have hR0 := fun w => Lib.hid (readNum_of (l.tail.take 8) w (by simp; omega))
  have hR1 := fun w => Lib.hid (readNum_of ((l.drop 9).take 8) w (by simp; omega))
  have hR2 := fun w => Lib.hid (readNum_of ((l.drop 17).take 8) w (by simp; omega))
  have hR3 := fun w => Lib.hid (readNum_of ((l.drop 25).take 8) w (by simp; omega))
  have hC := fun w => Lib.hid (headCheck p0 n1 n2 p3 w _ rfl)
  simp only [hnums, Prod.mk.injEq] at hn
  obtain ⟨h0, h1, h2, h3⟩ := hn
  rw [h1] at hR1
  rw [h2] at hR2
  have d1 : (hfault (p0, n1, n2, p3) == 0) = false := beq_eq_false_iff_ne.2 hg
  generalize hfault (p0, n1, n2, p3) = r at *
  clear hg
  generalize num8 (l.tail.take 8) = n0 at *
  generalize num8 ((l.drop 25).take 8) = n3 at *
  have hz0 := Bx.new w _ rfl _ [.int .i64 0, .int .u64 0, .int .u64 0, .int .i64 0] 24 rfl
  have hy0 := Bx.new (w.alloc (.cells #[.int .i64 0, .int .u64 0, .int .u64 0, .int .i64 0] 24)) (w.heap.size + 1) (by simp) _ [.int .u64 0, .int .u64 0, .int .u64 0, .int .u64 0] 37 rfl
  have hz1 := hz0.alloc (.cells #[.int .u64 0, .int .u64 0, .int .u64 0, .int .u64 0] 37)
  have hbw0 : Below w.heap.size w ((w.alloc (.cells #[.int .i64 0, .int .u64 0, .int .u64 0, .int .i64 0] 24)).alloc (.cells #[.int .u64 0, .int .u64 0, .int .u64 0, .int .u64 0] 37)) := ((Below.refl _ _).alloc (Nat.le_refl _) _).alloc (by simp) _
  clear hz0 hl hk h1 h2
  go_enter Try.func10, Try.ntmps10
  go_wp2_with fail
  refine wp_loop_rounds 5 ?_
  rw [rounds_succ]
  go_wp2_with fail
  refine (hR0 _).out.mono ?_
  rintro e w1 ⟨rfl, hb1⟩
  have hzz := hz1.below hb1
  have hyy := hy0.below hb1
  have hbb := below_chain hbw0 hb1
  clear hz1 hy0 hb1 hbw0 hR0
  obtain ⟨⟨y0, y1, y2, y3⟩, ⟨f0, f1, f2, f3⟩⟩ := hyy.get4
  have hy1 : Bx (w1.setCell ⟨w.heap.size + 1, 0, none⟩ (.int .u64 (n0 : Int))) (w.heap.size + 1) [.int .u64 (n0 : Int), .int .u64 0, .int .u64 0, .int .u64 0] := hyy.set 0 (.int .u64 (n0 : Int))
  have hz2 := hzz.kept (cell_grown w1 (w.heap.size + 1) 0 (.int .u64 (n0 : Int))) (by simp)
  have hbw1 := hbb.setCell (p := ⟨w.heap.size + 1, 0, none⟩) (Nat.le_succ w.heap.size) (.int .u64 (n0 : Int))
  clear hzz hyy hbb
  go_wp2_with fail
  clear y0 y1 y2 y3 f0 f1 f2 f3
  rw [rounds_succ]
  go_wp2_with fail
  generalize w1.setCell ⟨w.heap.size + 1, 0, none⟩ (.int .u64 (n0 : Int)) = v1 at *
  refine (hR1 _).out.mono ?_
  rintro e w2 ⟨rfl, hb2⟩
  have hzz := hz2.below hb2
  have hyy := hy1.below hb2
  have hbb := below_chain hbw1 hb2
  clear hz2 hy1 hb2 hbw1 hR1
  obtain ⟨⟨y0, y1, y2, y3⟩, ⟨f0, f1, f2, f3⟩⟩ := hyy.get4
  have hy2 : Bx (w2.setCell ⟨w.heap.size + 1, 1, none⟩ (.int .u64 (n1 : Int))) (w.heap.size + 1) [.int .u64 (n0 : Int), .int .u64 (n1 : Int), .int .u64 0, .int .u64 0] := hyy.set 1 (.int .u64 (n1 : Int))
  have hz3 := hzz.kept (cell_grown w2 (w.heap.size + 1) 1 (.int .u64 (n1 : Int))) (by simp)
  have hbw2 := hbb.setCell (p := ⟨w.heap.size + 1, 1, none⟩) (Nat.le_succ w.heap.size) (.int .u64 (n1 : Int))
  clear hzz hyy hbb
  go_wp2_with fail
  clear y0 y1 y2 y3 f0 f1 f2 f3
  rw [rounds_succ]
  go_wp2_with fail
  generalize w2.setCell ⟨w.heap.size + 1, 1, none⟩ (.int .u64 (n1 : Int)) = v2 at *
  refine (hR2 _).out.mono ?_
  rintro e w3 ⟨rfl, hb3⟩
  have hzz := hz3.below hb3
  have hyy := hy2.below hb3
  have hbb := below_chain hbw2 hb3
  clear hz3 hy2 hb3 hbw2 hR2
  obtain ⟨⟨y0, y1, y2, y3⟩, ⟨f0, f1, f2, f3⟩⟩ := hyy.get4
  have hy3 : Bx (w3.setCell ⟨w.heap.size + 1, 2, none⟩ (.int .u64 (n2 : Int))) (w.heap.size + 1) [.int .u64 (n0 : Int), .int .u64 (n1 : Int), .int .u64 (n2 : Int), .int .u64 0] := hyy.set 2 (.int .u64 (n2 : Int))
  have hz4 := hzz.kept (cell_grown w3 (w.heap.size + 1) 2 (.int .u64 (n2 : Int))) (by simp)
  have hbw3 := hbb.setCell (p := ⟨w.heap.size + 1, 2, none⟩) (Nat.le_succ w.heap.size) (.int .u64 (n2 : Int))
  clear hzz hyy hbb
  go_wp2_with fail
  clear y0 y1 y2 y3 f0 f1 f2 f3
  rw [rounds_succ]
  go_wp2_with fail
  generalize w3.setCell ⟨w.heap.size + 1, 2, none⟩ (.int .u64 (n2 : Int)) = v3 at *
  refine (hR3 _).out.mono ?_
  rintro e w4 ⟨rfl, hb4⟩
  have hzz := hz4.below hb4
  have hyy := hy3.below hb4
  have hbb := below_chain hbw3 hb4
  clear hz4 hy3 hb4 hbw3 hR3
  obtain ⟨⟨y0, y1, y2, y3⟩, ⟨f0, f1, f2, f3⟩⟩ := hyy.get4
  have hy4 : Bx (w4.setCell ⟨w.heap.size + 1, 3, none⟩ (.int .u64 (n3 : Int))) (w.heap.size + 1) [.int .u64 (n0 : Int), .int .u64 (n1 : Int), .int .u64 (n2 : Int), .int .u64 (n3 : Int)] := hyy.set 3 (.int .u64 (n3 : Int))
  have hz5 := hzz.kept (cell_grown w4 (w.heap.size + 1) 3 (.int .u64 (n3 : Int))) (by simp)
  have hbw4 := hbb.setCell (p := ⟨w.heap.size + 1, 3, none⟩) (Nat.le_succ w.heap.size) (.int .u64 (n3 : Int))
  clear hzz hyy hbb
  go_wp2_with fail
  clear y0 y1 y2 y3 f0 f1 f2 f3
  rw [rounds_succ]
  generalize w4.setCell ⟨w.heap.size + 1, 3, none⟩ (.int .u64 (n3 : Int)) = v4 at *
  obtain ⟨⟨y0, y1, y2, y3⟩, _⟩ := hy4.get4
  have hx := Bx.new v4 _ rfl _ [.int .i64 p0, .int .u64 (n1 : Int), .int .u64 (n2 : Int), .int .i64 p3] 24 rfl
  have hz6 := hz5.alloc (.cells #[.int .i64 p0, .int .u64 (n1 : Int), .int .u64 (n2 : Int), .int .i64 p3] 24)
  have hbw5 := hbw4.alloc hbw4.size (.cells #[.int .i64 p0, .int .u64 (n1 : Int), .int .u64 (n2 : Int), .int .i64 p3] 24)
  go_wp2_with fail
  clear y0 y1 y2 y3 hy4 hz5 hbw4 c1 c2 c3 c4 c5 c6 c7
  refine (hC _).out.mono ?_
  rintro e w5 ⟨rfl, hb5⟩
  have hz7 := hz6.below hb5
  have hx2 := hx.below hb5
  have hbw6 := below_chain hbw5 hb5
  clear hz6 hx hbw5 hb5 hC
  obtain ⟨⟨x0, x1, x2, x3⟩, _⟩ := hx2.get4
  obtain ⟨⟨z0, z1, z2, z3⟩, ⟨e0, e1, e2, e3⟩⟩ := hz7.get4
  have hz9 := hz7.set4 (.int .i64 0) (.int .u64 0) (.int .u64 0) (.int .i64 0)
  have hb9 := below_set4 hbw6 (Nat.le_refl w.heap.size) (.int .i64 0) (.int .u64 0) (.int .u64 0) (.int .i64 0)
  clear hz7 hbw6 hx2
  go_wp2
  generalize ((((w5.setCell ⟨w.heap.size, 0, none⟩ (.int .i64 0)).setCell ⟨w.heap.size, 1, none⟩ (.int .u64 0)).setCell ⟨w.heap.size, 2, none⟩ (.int .u64 0)).setCell ⟨w.heap.size, 3, none⟩ (.int .i64 0)) = w9 at *
  clear z0 z1 z2 z3 e0 e1 e2 e3
  obtain ⟨⟨r0, r1, r2, r3⟩, _⟩ := hz9.get4
  refine bodyPost_ret (v := .tuple #[.agg #[.int .i64 0, .int .u64 0, .int .u64 0, .int .i64 0], .int .i64 3]) ?_ rfl ⟨rfl, hb9⟩
  rw [results_cell_tmp rfl]
  go_simp

set_option maxHeartbeats 400000 in
theorem headRead_yes (l : Bytes) (w : World) (hl : l.length = 33) (hk : l.take 1 = [3]) (p0 : Int) (n1 n2 : Nat) (p3 : Int) (hn : hnums l = (p0, n1, n2, p3)) (hg : hfault (p0, n1, n2, p3) = 0) :
    Calls Try.prog 10 #[.string (S l)] w fun e w' => e = .returned (.tuple #[.agg #[.int .i64 p0, .int .u64 (n1 : Int), .int .u64 (n2 : Int), .int .i64 p3], .int .i64 0]) ∧ Below w.heap.size w w' := by
  have c1 : ((l.length : Int) != 33) = false := by simp; omega
  have c2 : (1 : Nat) ≤ l.length := by omega
  have c3 : (l.take 1 == [3]) = true := beq_iff_eq.2 hk
  have c4 : (9 : Nat) ≤ l.length := by omega
  have c5 : (17 : Nat) ≤ l.length := by omega
  have c6 : (25 : Nat) ≤ l.length := by omega
  have c7 : (33 : Nat) ≤ l.length := by omega
  have hR0 := fun w => Lib.hid (readNum_of (l.tail.take 8) w (by simp; omega))
  have hR1 := fun w => Lib.hid (readNum_of ((l.drop 9).take 8) w (by simp; omega))
  have hR2 := fun w => Lib.hid (readNum_of ((l.drop 17).take 8) w (by simp; omega))
  have hR3 := fun w => Lib.hid (readNum_of ((l.drop 25).take 8) w (by simp; omega))
  have hC := fun w => Lib.hid (headCheck p0 n1 n2 p3 w _ rfl)
  simp only [hnums, Prod.mk.injEq] at hn
  obtain ⟨h0, h1, h2, h3⟩ := hn
  rw [h1] at hR1
  rw [h2] at hR2
  rw [hg] at hC
  clear hg
  generalize num8 (l.tail.take 8) = n0 at *
  generalize num8 ((l.drop 25).take 8) = n3 at *
  have hz0 := Bx.new w _ rfl _ [.int .i64 0, .int .u64 0, .int .u64 0, .int .i64 0] 24 rfl
  have hy0 := Bx.new (w.alloc (.cells #[.int .i64 0, .int .u64 0, .int .u64 0, .int .i64 0] 24)) (w.heap.size + 1) (by simp) _ [.int .u64 0, .int .u64 0, .int .u64 0, .int .u64 0] 37 rfl
  have hz1 := hz0.alloc (.cells #[.int .u64 0, .int .u64 0, .int .u64 0, .int .u64 0] 37)
  have hbw0 : Below w.heap.size w ((w.alloc (.cells #[.int .i64 0, .int .u64 0, .int .u64 0, .int .i64 0] 24)).alloc (.cells #[.int .u64 0, .int .u64 0, .int .u64 0, .int .u64 0] 37)) := ((Below.refl _ _).alloc (Nat.le_refl _) _).alloc (by simp) _
  clear hz0 hl hk h1 h2
  go_enter Try.func10, Try.ntmps10
  go_wp2_with fail
  refine wp_loop_rounds 5 ?_
  rw [rounds_succ]
  go_wp2_with fail
  refine (hR0 _).out.mono ?_
  rintro e w1 ⟨rfl, hb1⟩
  have hzz := hz1.below hb1
  have hyy := hy0.below hb1
  have hbb := below_chain hbw0 hb1
  clear hz1 hy0 hb1 hbw0 hR0
  obtain ⟨⟨y0, y1, y2, y3⟩, ⟨f0, f1, f2, f3⟩⟩ := hyy.get4
  have hy1 : Bx (w1.setCell ⟨w.heap.size + 1, 0, none⟩ (.int .u64 (n0 : Int))) (w.heap.size + 1) [.int .u64 (n0 : Int), .int .u64 0, .int .u64 0, .int .u64 0] := hyy.set 0 (.int .u64 (n0 : Int))
  have hz2 := hzz.kept (cell_grown w1 (w.heap.size + 1) 0 (.int .u64 (n0 : Int))) (by simp)
  have hbw1 := hbb.setCell (p := ⟨w.heap.size + 1, 0, none⟩) (Nat.le_succ w.heap.size) (.int .u64 (n0 : Int))
  clear hzz hyy hbb
  go_wp2_with fail
  clear y0 y1 y2 y3 f0 f1 f2 f3
  rw [rounds_succ]
  go_wp2_with fail
  generalize w1.setCell ⟨w.heap.size + 1, 0, none⟩ (.int .u64 (n0 : Int)) = v1 at *
  refine (hR1 _).out.mono ?_
  rintro e w2 ⟨rfl, hb2⟩
  have hzz := hz2.below hb2
  have hyy := hy1.below hb2
  have hbb := below_chain hbw1 hb2
  clear hz2 hy1 hb2 hbw1 hR1
  obtain ⟨⟨y0, y1, y2, y3⟩, ⟨f0, f1, f2, f3⟩⟩ := hyy.get4
  have hy2 : Bx (w2.setCell ⟨w.heap.size + 1, 1, none⟩ (.int .u64 (n1 : Int))) (w.heap.size + 1) [.int .u64 (n0 : Int), .int .u64 (n1 : Int), .int .u64 0, .int .u64 0] := hyy.set 1 (.int .u64 (n1 : Int))
  have hz3 := hzz.kept (cell_grown w2 (w.heap.size + 1) 1 (.int .u64 (n1 : Int))) (by simp)
  have hbw2 := hbb.setCell (p := ⟨w.heap.size + 1, 1, none⟩) (Nat.le_succ w.heap.size) (.int .u64 (n1 : Int))
  clear hzz hyy hbb
  go_wp2_with fail
  clear y0 y1 y2 y3 f0 f1 f2 f3
  rw [rounds_succ]
  go_wp2_with fail
  generalize w2.setCell ⟨w.heap.size + 1, 1, none⟩ (.int .u64 (n1 : Int)) = v2 at *
  refine (hR2 _).out.mono ?_
  rintro e w3 ⟨rfl, hb3⟩
  have hzz := hz3.below hb3
  have hyy := hy2.below hb3
  have hbb := below_chain hbw2 hb3
  clear hz3 hy2 hb3 hbw2 hR2
  obtain ⟨⟨y0, y1, y2, y3⟩, ⟨f0, f1, f2, f3⟩⟩ := hyy.get4
  have hy3 : Bx (w3.setCell ⟨w.heap.size + 1, 2, none⟩ (.int .u64 (n2 : Int))) (w.heap.size + 1) [.int .u64 (n0 : Int), .int .u64 (n1 : Int), .int .u64 (n2 : Int), .int .u64 0] := hyy.set 2 (.int .u64 (n2 : Int))
  have hz4 := hzz.kept (cell_grown w3 (w.heap.size + 1) 2 (.int .u64 (n2 : Int))) (by simp)
  have hbw3 := hbb.setCell (p := ⟨w.heap.size + 1, 2, none⟩) (Nat.le_succ w.heap.size) (.int .u64 (n2 : Int))
  clear hzz hyy hbb
  go_wp2_with fail
  clear y0 y1 y2 y3 f0 f1 f2 f3
  rw [rounds_succ]
  go_wp2_with fail
  generalize w3.setCell ⟨w.heap.size + 1, 2, none⟩ (.int .u64 (n2 : Int)) = v3 at *
  refine (hR3 _).out.mono ?_
  rintro e w4 ⟨rfl, hb4⟩
  have hzz := hz4.below hb4
  have hyy := hy3.below hb4
  have hbb := below_chain hbw3 hb4
  clear hz4 hy3 hb4 hbw3 hR3
  obtain ⟨⟨y0, y1, y2, y3⟩, ⟨f0, f1, f2, f3⟩⟩ := hyy.get4
  have hy4 : Bx (w4.setCell ⟨w.heap.size + 1, 3, none⟩ (.int .u64 (n3 : Int))) (w.heap.size + 1) [.int .u64 (n0 : Int), .int .u64 (n1 : Int), .int .u64 (n2 : Int), .int .u64 (n3 : Int)] := hyy.set 3 (.int .u64 (n3 : Int))
  have hz5 := hzz.kept (cell_grown w4 (w.heap.size + 1) 3 (.int .u64 (n3 : Int))) (by simp)
  have hbw4 := hbb.setCell (p := ⟨w.heap.size + 1, 3, none⟩) (Nat.le_succ w.heap.size) (.int .u64 (n3 : Int))
  clear hzz hyy hbb
  go_wp2_with fail
  clear y0 y1 y2 y3 f0 f1 f2 f3
  rw [rounds_succ]
  generalize w4.setCell ⟨w.heap.size + 1, 3, none⟩ (.int .u64 (n3 : Int)) = v4 at *
  obtain ⟨⟨y0, y1, y2, y3⟩, _⟩ := hy4.get4
  have hx := Bx.new v4 _ rfl _ [.int .i64 p0, .int .u64 (n1 : Int), .int .u64 (n2 : Int), .int .i64 p3] 24 rfl
  have hz6 := hz5.alloc (.cells #[.int .i64 p0, .int .u64 (n1 : Int), .int .u64 (n2 : Int), .int .i64 p3] 24)
  have hbw5 := hbw4.alloc hbw4.size (.cells #[.int .i64 p0, .int .u64 (n1 : Int), .int .u64 (n2 : Int), .int .i64 p3] 24)
  go_wp2_with fail
  clear y0 y1 y2 y3 hy4 hz5 hbw4 c1 c2 c3 c4 c5 c6 c7
  refine (hC _).out.mono ?_
  rintro e w5 ⟨rfl, hb5⟩
  have hz7 := hz6.below hb5
  have hx2 := hx.below hb5
  have hbw6 := below_chain hbw5 hb5
  clear hz6 hx hbw5 hb5 hC
  obtain ⟨⟨x0, x1, x2, x3⟩, _⟩ := hx2.get4
  obtain ⟨⟨z0, z1, z2, z3⟩, ⟨e0, e1, e2, e3⟩⟩ := hz7.get4
  have hz9 := hz7.set4 (.int .i64 p0) (.int .u64 (n1 : Int)) (.int .u64 (n2 : Int)) (.int .i64 p3)
  have hb9 := below_set4 hbw6 (Nat.le_refl w.heap.size) (.int .i64 p0) (.int .u64 (n1 : Int)) (.int .u64 (n2 : Int)) (.int .i64 p3)
  clear hz7 hbw6 hx2
  go_wp2
  generalize ((((w5.setCell ⟨w.heap.size, 0, none⟩ (.int .i64 p0)).setCell ⟨w.heap.size, 1, none⟩ (.int .u64 (n1 : Int))).setCell ⟨w.heap.size, 2, none⟩ (.int .u64 (n2 : Int))).setCell ⟨w.heap.size, 3, none⟩ (.int .i64 p3)) = w9 at *
  clear z0 z1 z2 z3 e0 e1 e2 e3
  obtain ⟨⟨r0, r1, r2, r3⟩, _⟩ := hz9.get4
  refine bodyPost_ret (v := .tuple #[.agg #[.int .i64 p0, .int .u64 (n1 : Int), .int .u64 (n2 : Int), .int .i64 p3], .int .i64 0]) ?_ rfl ⟨rfl, hb9⟩
  rw [results_cell_tmp rfl]
  go_simp
end Go.Proofs.Ytmlgolnfegaihaa
