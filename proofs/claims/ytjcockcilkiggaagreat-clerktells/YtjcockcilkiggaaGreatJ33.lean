/- Package clerk: admit at a clerk that is right: its queue with the request behind all others, or the error. It writes nothing that was there. -/
import Derived.Test.YtjcockcilkiggaaGreatJ28
import Derived.Test.YtjcockcilkiggaaGreatJ32
namespace Go.Proofs.YtjcockcilkiggaaGreat
set_option maxRecDepth 100000
open Go.RowKit

/-- No queue, and an error. -/
def AdmitNo (r : Int) (w : World) (x : Ending) (w' : World) : Prop := x = .returned (.tuple #[.agg #[.int .i64 0, .slice none 0 0], .int .i64 0, .int .i64 r]) ∧ Below w.heap.size w w'
set_option maxHeartbeats 2000000 in
theorem clerkAdmit_3 (most ba ev nw : Int) (l : List Ak) (hs : List Hd) (ps : List Bp) (A H B : Option Addr) (c d e : Nat) (n v : Bytes) (x t : Nat) (w : World) (hg : CkGood ⟨most, l, ba, ev, nw, hs, bks ps⟩) (hl : ∀ x ∈ l, AkFits x) (hn : n.length ≤ maxLen) (hv : v.length ≤ maxLen)
    (hA : Row w A (qcells l)) (hf : askFault n v = 3) (bc : Bool) (hcl : closedB ⟨most, l, ba, ev, nw, hs, bks ps⟩ = bc) :
    Calls Tryz.prog 17 #[.agg #[.int .i64 most, .slice A l.length c, .int .i64 ba, .int .i64 ev, .int .i64 nw, .slice H hs.length d, .slice B ps.length e], .agg #[.string (S n), .string (S v), .int .u64 (x : Int), .int .u64 (t : Int)]] w (AdmitNo (3) w) := by
  have hqg : QGood most l := hg.queue
  have hl30 : l.length ≤ 30 := by have := hqg.len; have := hqg.m30; omega
  have x0 := ((Bx.new w _ rfl _ [.int .i64 most, .slice A l.length c, .int .i64 ba, .int .i64 ev, .int .i64 nw, .slice H hs.length d, .slice B ps.length e] 28 rfl).alloc (.cells #[.string (S n), .string (S v), .int .u64 (x : Int), .int .u64 (t : Int)] 31)).alloc (.cells #[.int .i64 0, .slice none 0 0] 24)
  have y0 := (Bx.new (w.alloc (.cells #[.int .i64 most, .slice A l.length c, .int .i64 ba, .int .i64 ev, .int .i64 nw, .slice H hs.length d, .slice B ps.length e] 28)) (w.heap.size + 1) (by simp) _ [.string (S n), .string (S v), .int .u64 (x : Int), .int .u64 (t : Int)] 31 rfl).alloc (.cells #[.int .i64 0, .slice none 0 0] 24)
  have z0 := Bx.new ((w.alloc (.cells #[.int .i64 most, .slice A l.length c, .int .i64 ba, .int .i64 ev, .int .i64 nw, .slice H hs.length d, .slice B ps.length e] 28)).alloc (.cells #[.string (S n), .string (S v), .int .u64 (x : Int), .int .u64 (t : Int)] 31)) (w.heap.size + 2) (by simp) _ [.int .i64 0, .slice none 0 0] 24 rfl
  have hb0 : Below w.heap.size w (((w.alloc (.cells #[.int .i64 most, .slice A l.length c, .int .i64 ba, .int .i64 ev, .int .i64 nw, .slice H hs.length d, .slice B ps.length e] 28)).alloc (.cells #[.string (S n), .string (S v), .int .u64 (x : Int), .int .u64 (t : Int)] 31)).alloc (.cells #[.int .i64 0, .slice none 0 0] 24)) := balloc (balloc (balloc (Below.refl _ _) _) _) _
  have hA0 := hA.below hb0
  have hCl := fun (w : World) => Lib.hid (clerkClosed most ba ev nw A H B l.length c hs.length d ps.length e w _ hcl)
  obtain ⟨a0, a1, a2, a3, a4, a5, a6⟩ := x0.get7
  obtain ⟨⟨b0, b1, b2, b3⟩, _⟩ := y0.get4
  have hPut := fun (w : World) h => Lib.hid (queuePut_no most A c l n v x t w (by unfold maxLen; omega) hl hn hv h 3 (by rw [putErr, if_pos ((qfault_ok _ _).2 hqg)]; dsimp only; rw [hf, if_neg (by decide)]) (by decide))
  clear hqg hg hl hn hv hA hl30  hf hcl
  cases bc with
  | true =>
    go_enter Tryz.func17, Tryz.ntmps17
    go_wp2_with fail
    refine (hPut _ hA0).out.mono ?_
    rintro xx w1 ⟨rfl, hb1⟩
    have hb12 := balloc hb1 (.cells #[.int .i64 0, .slice none 0 0] 24)
    have x2 := x0.below hb12
    have z2 := z0.below hb12
    have q2 := Bx.new w1 w1.heap.size rfl _ [.int .i64 0, .slice none 0 0] 24 rfl
    have hb02 := below_chain hb0 hb12
    have hz2 := z2.lt
    clear a0 a1 a2 a3 a4 a5 a6 b0 b1 b2 b3 x0 y0 z0 hb1 hb12 hA0 hb0 hPut
    obtain ⟨a0, a1, a2, a3, a4, a5, a6⟩ := x2.get7
    go_wp2_with fail
    refine (hCl _).out.mono ?_
    rintro xx w3 ⟨rfl, hb3⟩
    have z3 := z2.below hb3
    have hb03 := below_chain hb02 hb3
    have x3 := x2.below hb3
    have q3 := q2.below hb3
    clear a0 a1 a2 a3 a4 a5 a6 x2 z2 q2 hb02 hCl
    obtain ⟨⟨z30, z31⟩, ⟨f30, f31⟩⟩ := z3.get2
    have z9 := z3.set2 (.int .i64 0) (.slice none 0 0)
    have hb9 := below_set2 hb03 (by omega : w.heap.size ≤ w.heap.size + 2) (.int .i64 0) (.slice none 0 0)
    go_wp2
    generalize (w3.setCell ⟨w.heap.size + 2, 0, none⟩ (.int .i64 0)).setCell ⟨w.heap.size + 2, 1, none⟩ (.slice none 0 0) = w9 at *
    obtain ⟨⟨r0, r1⟩, _⟩ := z9.get2
    refine bodyPost_ret (v := .tuple #[.agg #[.int .i64 0, .slice none 0 0], .int .i64 0, .int .i64 3]) ?_ rfl ⟨rfl, hb9⟩
    rw [results_cell_tmp2 rfl]
    go_simp
  | false =>
    go_enter Tryz.func17, Tryz.ntmps17
    go_wp2_with fail
    refine (hPut _ hA0).out.mono ?_
    rintro xx w1 ⟨rfl, hb1⟩
    have hb12 := balloc hb1 (.cells #[.int .i64 0, .slice none 0 0] 24)
    have x2 := x0.below hb12
    have z2 := z0.below hb12
    have q2 := Bx.new w1 w1.heap.size rfl _ [.int .i64 0, .slice none 0 0] 24 rfl
    have hb02 := below_chain hb0 hb12
    have hz2 := z2.lt
    clear a0 a1 a2 a3 a4 a5 a6 b0 b1 b2 b3 x0 y0 z0 hb1 hb12 hA0 hb0 hPut
    obtain ⟨a0, a1, a2, a3, a4, a5, a6⟩ := x2.get7
    go_wp2_with fail
    refine (hCl _).out.mono ?_
    rintro xx w3 ⟨rfl, hb3⟩
    have z3 := z2.below hb3
    have hb03 := below_chain hb02 hb3
    have x3 := x2.below hb3
    have q3 := q2.below hb3
    clear a0 a1 a2 a3 a4 a5 a6 x2 z2 q2 hb02 hCl
    obtain ⟨⟨z30, z31⟩, ⟨f30, f31⟩⟩ := z3.get2
    have z9 := z3.set2 (.int .i64 0) (.slice none 0 0)
    have hb9 := below_set2 hb03 (by omega : w.heap.size ≤ w.heap.size + 2) (.int .i64 0) (.slice none 0 0)
    go_wp2
    generalize (w3.setCell ⟨w.heap.size + 2, 0, none⟩ (.int .i64 0)).setCell ⟨w.heap.size + 2, 1, none⟩ (.slice none 0 0) = w9 at *
    obtain ⟨⟨r0, r1⟩, _⟩ := z9.get2
    refine bodyPost_ret (v := .tuple #[.agg #[.int .i64 0, .slice none 0 0], .int .i64 0, .int .i64 3]) ?_ rfl ⟨rfl, hb9⟩
    rw [results_cell_tmp2 rfl]
    go_simp
set_option maxHeartbeats 2000000 in
theorem clerkAdmit_2 (most ba ev nw : Int) (l : List Ak) (hs : List Hd) (ps : List Bp) (A H B : Option Addr) (c d e : Nat) (n v : Bytes) (x t : Nat) (w : World) (hg : CkGood ⟨most, l, ba, ev, nw, hs, bks ps⟩) (hl : ∀ x ∈ l, AkFits x) (hn : n.length ≤ maxLen) (hv : v.length ≤ maxLen)
    (hA : Row w A (qcells l)) (hf : askFault n v = 2) (bc : Bool) (hcl : closedB ⟨most, l, ba, ev, nw, hs, bks ps⟩ = bc) :
    Calls Tryz.prog 17 #[.agg #[.int .i64 most, .slice A l.length c, .int .i64 ba, .int .i64 ev, .int .i64 nw, .slice H hs.length d, .slice B ps.length e], .agg #[.string (S n), .string (S v), .int .u64 (x : Int), .int .u64 (t : Int)]] w (AdmitNo (2) w) := by
  have hqg : QGood most l := hg.queue
  have hl30 : l.length ≤ 30 := by have := hqg.len; have := hqg.m30; omega
  have x0 := ((Bx.new w _ rfl _ [.int .i64 most, .slice A l.length c, .int .i64 ba, .int .i64 ev, .int .i64 nw, .slice H hs.length d, .slice B ps.length e] 28 rfl).alloc (.cells #[.string (S n), .string (S v), .int .u64 (x : Int), .int .u64 (t : Int)] 31)).alloc (.cells #[.int .i64 0, .slice none 0 0] 24)
  have y0 := (Bx.new (w.alloc (.cells #[.int .i64 most, .slice A l.length c, .int .i64 ba, .int .i64 ev, .int .i64 nw, .slice H hs.length d, .slice B ps.length e] 28)) (w.heap.size + 1) (by simp) _ [.string (S n), .string (S v), .int .u64 (x : Int), .int .u64 (t : Int)] 31 rfl).alloc (.cells #[.int .i64 0, .slice none 0 0] 24)
  have z0 := Bx.new ((w.alloc (.cells #[.int .i64 most, .slice A l.length c, .int .i64 ba, .int .i64 ev, .int .i64 nw, .slice H hs.length d, .slice B ps.length e] 28)).alloc (.cells #[.string (S n), .string (S v), .int .u64 (x : Int), .int .u64 (t : Int)] 31)) (w.heap.size + 2) (by simp) _ [.int .i64 0, .slice none 0 0] 24 rfl
  have hb0 : Below w.heap.size w (((w.alloc (.cells #[.int .i64 most, .slice A l.length c, .int .i64 ba, .int .i64 ev, .int .i64 nw, .slice H hs.length d, .slice B ps.length e] 28)).alloc (.cells #[.string (S n), .string (S v), .int .u64 (x : Int), .int .u64 (t : Int)] 31)).alloc (.cells #[.int .i64 0, .slice none 0 0] 24)) := balloc (balloc (balloc (Below.refl _ _) _) _) _
  have hA0 := hA.below hb0
  have hCl := fun (w : World) => Lib.hid (clerkClosed most ba ev nw A H B l.length c hs.length d ps.length e w _ hcl)
  obtain ⟨a0, a1, a2, a3, a4, a5, a6⟩ := x0.get7
  obtain ⟨⟨b0, b1, b2, b3⟩, _⟩ := y0.get4
  have hPut := fun (w : World) h => Lib.hid (queuePut_no most A c l n v x t w (by unfold maxLen; omega) hl hn hv h 2 (by rw [putErr, if_pos ((qfault_ok _ _).2 hqg)]; dsimp only; rw [hf, if_neg (by decide)]) (by decide))
  clear hqg hg hl hn hv hA hl30  hf hcl
  cases bc with
  | true =>
    go_enter Tryz.func17, Tryz.ntmps17
    go_wp2_with fail
    refine (hPut _ hA0).out.mono ?_
    rintro xx w1 ⟨rfl, hb1⟩
    have hb12 := balloc hb1 (.cells #[.int .i64 0, .slice none 0 0] 24)
    have x2 := x0.below hb12
    have z2 := z0.below hb12
    have q2 := Bx.new w1 w1.heap.size rfl _ [.int .i64 0, .slice none 0 0] 24 rfl
    have hb02 := below_chain hb0 hb12
    have hz2 := z2.lt
    clear a0 a1 a2 a3 a4 a5 a6 b0 b1 b2 b3 x0 y0 z0 hb1 hb12 hA0 hb0 hPut
    obtain ⟨a0, a1, a2, a3, a4, a5, a6⟩ := x2.get7
    go_wp2_with fail
    refine (hCl _).out.mono ?_
    rintro xx w3 ⟨rfl, hb3⟩
    have z3 := z2.below hb3
    have hb03 := below_chain hb02 hb3
    have x3 := x2.below hb3
    have q3 := q2.below hb3
    clear a0 a1 a2 a3 a4 a5 a6 x2 z2 q2 hb02 hCl
    obtain ⟨⟨z30, z31⟩, ⟨f30, f31⟩⟩ := z3.get2
    have z9 := z3.set2 (.int .i64 0) (.slice none 0 0)
    have hb9 := below_set2 hb03 (by omega : w.heap.size ≤ w.heap.size + 2) (.int .i64 0) (.slice none 0 0)
    go_wp2
    generalize (w3.setCell ⟨w.heap.size + 2, 0, none⟩ (.int .i64 0)).setCell ⟨w.heap.size + 2, 1, none⟩ (.slice none 0 0) = w9 at *
    obtain ⟨⟨r0, r1⟩, _⟩ := z9.get2
    refine bodyPost_ret (v := .tuple #[.agg #[.int .i64 0, .slice none 0 0], .int .i64 0, .int .i64 2]) ?_ rfl ⟨rfl, hb9⟩
    rw [results_cell_tmp2 rfl]
    go_simp
  | false =>
    go_enter Tryz.func17, Tryz.ntmps17
    go_wp2_with fail
    refine (hPut _ hA0).out.mono ?_
    rintro xx w1 ⟨rfl, hb1⟩
    have hb12 := balloc hb1 (.cells #[.int .i64 0, .slice none 0 0] 24)
    have x2 := x0.below hb12
    have z2 := z0.below hb12
    have q2 := Bx.new w1 w1.heap.size rfl _ [.int .i64 0, .slice none 0 0] 24 rfl
    have hb02 := below_chain hb0 hb12
    have hz2 := z2.lt
    clear a0 a1 a2 a3 a4 a5 a6 b0 b1 b2 b3 x0 y0 z0 hb1 hb12 hA0 hb0 hPut
    obtain ⟨a0, a1, a2, a3, a4, a5, a6⟩ := x2.get7
    go_wp2_with fail
    refine (hCl _).out.mono ?_
    rintro xx w3 ⟨rfl, hb3⟩
    have z3 := z2.below hb3
    have hb03 := below_chain hb02 hb3
    have x3 := x2.below hb3
    have q3 := q2.below hb3
    clear a0 a1 a2 a3 a4 a5 a6 x2 z2 q2 hb02 hCl
    obtain ⟨⟨z30, z31⟩, ⟨f30, f31⟩⟩ := z3.get2
    have z9 := z3.set2 (.int .i64 0) (.slice none 0 0)
    have hb9 := below_set2 hb03 (by omega : w.heap.size ≤ w.heap.size + 2) (.int .i64 0) (.slice none 0 0)
    go_wp2
    generalize (w3.setCell ⟨w.heap.size + 2, 0, none⟩ (.int .i64 0)).setCell ⟨w.heap.size + 2, 1, none⟩ (.slice none 0 0) = w9 at *
    obtain ⟨⟨r0, r1⟩, _⟩ := z9.get2
    refine bodyPost_ret (v := .tuple #[.agg #[.int .i64 0, .slice none 0 0], .int .i64 0, .int .i64 2]) ?_ rfl ⟨rfl, hb9⟩
    rw [results_cell_tmp2 rfl]
    go_simp
set_option maxHeartbeats 2000000 in
theorem clerkAdmit_7 (most ba ev nw : Int) (l : List Ak) (hs : List Hd) (ps : List Bp) (A H B : Option Addr) (c d e : Nat) (n v : Bytes) (x t : Nat) (w : World) (hg : CkGood ⟨most, l, ba, ev, nw, hs, bks ps⟩) (hl : ∀ x ∈ l, AkFits x) (hn : n.length ≤ maxLen) (hv : v.length ≤ maxLen)
    (hA : Row w A (qcells l)) (hf : askFault n v = 0) (hm : (l.length : Int) = most) (bc : Bool) (hcl : closedB ⟨most, l, ba, ev, nw, hs, bks ps⟩ = bc) :
    Calls Tryz.prog 17 #[.agg #[.int .i64 most, .slice A l.length c, .int .i64 ba, .int .i64 ev, .int .i64 nw, .slice H hs.length d, .slice B ps.length e], .agg #[.string (S n), .string (S v), .int .u64 (x : Int), .int .u64 (t : Int)]] w (AdmitNo (if bc = true then 9 else 7) w) := by
  have hqg : QGood most l := hg.queue
  have hl30 : l.length ≤ 30 := by have := hqg.len; have := hqg.m30; omega
  have x0 := ((Bx.new w _ rfl _ [.int .i64 most, .slice A l.length c, .int .i64 ba, .int .i64 ev, .int .i64 nw, .slice H hs.length d, .slice B ps.length e] 28 rfl).alloc (.cells #[.string (S n), .string (S v), .int .u64 (x : Int), .int .u64 (t : Int)] 31)).alloc (.cells #[.int .i64 0, .slice none 0 0] 24)
  have y0 := (Bx.new (w.alloc (.cells #[.int .i64 most, .slice A l.length c, .int .i64 ba, .int .i64 ev, .int .i64 nw, .slice H hs.length d, .slice B ps.length e] 28)) (w.heap.size + 1) (by simp) _ [.string (S n), .string (S v), .int .u64 (x : Int), .int .u64 (t : Int)] 31 rfl).alloc (.cells #[.int .i64 0, .slice none 0 0] 24)
  have z0 := Bx.new ((w.alloc (.cells #[.int .i64 most, .slice A l.length c, .int .i64 ba, .int .i64 ev, .int .i64 nw, .slice H hs.length d, .slice B ps.length e] 28)).alloc (.cells #[.string (S n), .string (S v), .int .u64 (x : Int), .int .u64 (t : Int)] 31)) (w.heap.size + 2) (by simp) _ [.int .i64 0, .slice none 0 0] 24 rfl
  have hb0 : Below w.heap.size w (((w.alloc (.cells #[.int .i64 most, .slice A l.length c, .int .i64 ba, .int .i64 ev, .int .i64 nw, .slice H hs.length d, .slice B ps.length e] 28)).alloc (.cells #[.string (S n), .string (S v), .int .u64 (x : Int), .int .u64 (t : Int)] 31)).alloc (.cells #[.int .i64 0, .slice none 0 0] 24)) := balloc (balloc (balloc (Below.refl _ _) _) _) _
  have hA0 := hA.below hb0
  have hCl := fun (w : World) => Lib.hid (clerkClosed most ba ev nw A H B l.length c hs.length d ps.length e w _ hcl)
  obtain ⟨a0, a1, a2, a3, a4, a5, a6⟩ := x0.get7
  obtain ⟨⟨b0, b1, b2, b3⟩, _⟩ := y0.get4
  have hPut := fun (w : World) h => Lib.hid (queuePut_no most A c l n v x t w (by unfold maxLen; omega) hl hn hv h 7 (by rw [putErr, if_pos ((qfault_ok _ _).2 hqg)]; dsimp only; rw [if_pos hf, if_pos hm]) (by decide))
  clear hqg hg hl hn hv hA hl30 hm hf hcl
  cases bc with
  | true =>
    go_enter Tryz.func17, Tryz.ntmps17
    go_wp2_with fail
    refine (hPut _ hA0).out.mono ?_
    rintro xx w1 ⟨rfl, hb1⟩
    have hb12 := balloc hb1 (.cells #[.int .i64 0, .slice none 0 0] 24)
    have x2 := x0.below hb12
    have z2 := z0.below hb12
    have q2 := Bx.new w1 w1.heap.size rfl _ [.int .i64 0, .slice none 0 0] 24 rfl
    have hb02 := below_chain hb0 hb12
    have hz2 := z2.lt
    clear a0 a1 a2 a3 a4 a5 a6 b0 b1 b2 b3 x0 y0 z0 hb1 hb12 hA0 hb0 hPut
    obtain ⟨a0, a1, a2, a3, a4, a5, a6⟩ := x2.get7
    go_wp2_with fail
    refine (hCl _).out.mono ?_
    rintro xx w3 ⟨rfl, hb3⟩
    have z3 := z2.below hb3
    have hb03 := below_chain hb02 hb3
    have x3 := x2.below hb3
    have q3 := q2.below hb3
    clear a0 a1 a2 a3 a4 a5 a6 x2 z2 q2 hb02 hCl
    obtain ⟨⟨z30, z31⟩, ⟨f30, f31⟩⟩ := z3.get2
    have z9 := z3.set2 (.int .i64 0) (.slice none 0 0)
    have hb9 := below_set2 hb03 (by omega : w.heap.size ≤ w.heap.size + 2) (.int .i64 0) (.slice none 0 0)
    go_wp2
    generalize (w3.setCell ⟨w.heap.size + 2, 0, none⟩ (.int .i64 0)).setCell ⟨w.heap.size + 2, 1, none⟩ (.slice none 0 0) = w9 at *
    obtain ⟨⟨r0, r1⟩, _⟩ := z9.get2
    refine bodyPost_ret (v := .tuple #[.agg #[.int .i64 0, .slice none 0 0], .int .i64 0, .int .i64 9]) ?_ rfl ⟨rfl, hb9⟩
    rw [results_cell_tmp2 rfl]
    go_simp
  | false =>
    go_enter Tryz.func17, Tryz.ntmps17
    go_wp2_with fail
    refine (hPut _ hA0).out.mono ?_
    rintro xx w1 ⟨rfl, hb1⟩
    have hb12 := balloc hb1 (.cells #[.int .i64 0, .slice none 0 0] 24)
    have x2 := x0.below hb12
    have z2 := z0.below hb12
    have q2 := Bx.new w1 w1.heap.size rfl _ [.int .i64 0, .slice none 0 0] 24 rfl
    have hb02 := below_chain hb0 hb12
    have hz2 := z2.lt
    clear a0 a1 a2 a3 a4 a5 a6 b0 b1 b2 b3 x0 y0 z0 hb1 hb12 hA0 hb0 hPut
    obtain ⟨a0, a1, a2, a3, a4, a5, a6⟩ := x2.get7
    go_wp2_with fail
    refine (hCl _).out.mono ?_
    rintro xx w3 ⟨rfl, hb3⟩
    have z3 := z2.below hb3
    have hb03 := below_chain hb02 hb3
    have x3 := x2.below hb3
    have q3 := q2.below hb3
    clear a0 a1 a2 a3 a4 a5 a6 x2 z2 q2 hb02 hCl
    obtain ⟨⟨z30, z31⟩, ⟨f30, f31⟩⟩ := z3.get2
    have z9 := z3.set2 (.int .i64 0) (.slice none 0 0)
    have hb9 := below_set2 hb03 (by omega : w.heap.size ≤ w.heap.size + 2) (.int .i64 0) (.slice none 0 0)
    go_wp2
    generalize (w3.setCell ⟨w.heap.size + 2, 0, none⟩ (.int .i64 0)).setCell ⟨w.heap.size + 2, 1, none⟩ (.slice none 0 0) = w9 at *
    obtain ⟨⟨r0, r1⟩, _⟩ := z9.get2
    refine bodyPost_ret (v := .tuple #[.agg #[.int .i64 0, .slice none 0 0], .int .i64 0, .int .i64 7]) ?_ rfl ⟨rfl, hb9⟩
    rw [results_cell_tmp2 rfl]
    go_simp
set_option maxHeartbeats 2000000 in
theorem clerkAdmit_9 (most ba ev nw : Int) (l : List Ak) (hs : List Hd) (ps : List Bp) (A H B : Option Addr) (c d e : Nat) (n v : Bytes) (x t : Nat) (w : World) (hg : CkGood ⟨most, l, ba, ev, nw, hs, bks ps⟩) (hl : ∀ x ∈ l, AkFits x) (hn : n.length ≤ maxLen) (hv : v.length ≤ maxLen)
    (hA : Row w A (qcells l)) (hf : askFault n v = 0) (hm : (l.length : Int) < most) (hcl : closedB ⟨most, l, ba, ev, nw, hs, bks ps⟩ = true) :
    Calls Tryz.prog 17 #[.agg #[.int .i64 most, .slice A l.length c, .int .i64 ba, .int .i64 ev, .int .i64 nw, .slice H hs.length d, .slice B ps.length e], .agg #[.string (S n), .string (S v), .int .u64 (x : Int), .int .u64 (t : Int)]] w (AdmitNo 9 w) := by
  have hqg : QGood most l := hg.queue
  have hl30 : l.length ≤ 30 := by have := hqg.len; have := hqg.m30; omega
  have x0 := ((Bx.new w _ rfl _ [.int .i64 most, .slice A l.length c, .int .i64 ba, .int .i64 ev, .int .i64 nw, .slice H hs.length d, .slice B ps.length e] 28 rfl).alloc (.cells #[.string (S n), .string (S v), .int .u64 (x : Int), .int .u64 (t : Int)] 31)).alloc (.cells #[.int .i64 0, .slice none 0 0] 24)
  have y0 := (Bx.new (w.alloc (.cells #[.int .i64 most, .slice A l.length c, .int .i64 ba, .int .i64 ev, .int .i64 nw, .slice H hs.length d, .slice B ps.length e] 28)) (w.heap.size + 1) (by simp) _ [.string (S n), .string (S v), .int .u64 (x : Int), .int .u64 (t : Int)] 31 rfl).alloc (.cells #[.int .i64 0, .slice none 0 0] 24)
  have z0 := Bx.new ((w.alloc (.cells #[.int .i64 most, .slice A l.length c, .int .i64 ba, .int .i64 ev, .int .i64 nw, .slice H hs.length d, .slice B ps.length e] 28)).alloc (.cells #[.string (S n), .string (S v), .int .u64 (x : Int), .int .u64 (t : Int)] 31)) (w.heap.size + 2) (by simp) _ [.int .i64 0, .slice none 0 0] 24 rfl
  have hb0 : Below w.heap.size w (((w.alloc (.cells #[.int .i64 most, .slice A l.length c, .int .i64 ba, .int .i64 ev, .int .i64 nw, .slice H hs.length d, .slice B ps.length e] 28)).alloc (.cells #[.string (S n), .string (S v), .int .u64 (x : Int), .int .u64 (t : Int)] 31)).alloc (.cells #[.int .i64 0, .slice none 0 0] 24)) := balloc (balloc (balloc (Below.refl _ _) _) _) _
  have hA0 := hA.below hb0
  have hCl := fun (w : World) => Lib.hid (clerkClosed most ba ev nw A H B l.length c hs.length d ps.length e w _ hcl)
  obtain ⟨a0, a1, a2, a3, a4, a5, a6⟩ := x0.get7
  obtain ⟨⟨b0, b1, b2, b3⟩, _⟩ := y0.get4
  have hPut := fun (w : World) h => Lib.hid (queuePut_ok most A c l n v x t w hqg hl hn hv h hf hm)
  clear hqg hg hl hn hv hA hl30 hf hcl hm
  go_enter Tryz.func17, Tryz.ntmps17
  go_wp2_with fail
  refine (hPut _ hA0).out.mono ?_
  rintro xx w1 ⟨D1, d1, rfl, hown1, hb1⟩
  generalize hT : l ++ [(n, v, x, t)] = T at *
  have HT := Lib.hid hT
  have hown2 := hown1.alloc (.cells #[.int .i64 most, .slice D1 T.length d1] 24)
  clear hT hown1
  have hb12 := balloc hb1 (.cells #[.int .i64 most, .slice D1 T.length d1] 24)
  have x2 := x0.below hb12
  have z2 := z0.below hb12
  have q2 := Bx.new w1 w1.heap.size rfl _ [.int .i64 most, .slice D1 T.length d1] 24 rfl
  have hb02 := below_chain hb0 hb12
  have hz2 := z2.lt
  clear a0 a1 a2 a3 a4 a5 a6 b0 b1 b2 b3 x0 y0 z0 hb1 hb12 hA0 hb0 hPut
  obtain ⟨a0, a1, a2, a3, a4, a5, a6⟩ := x2.get7
  go_wp2_with fail
  refine (hCl _).out.mono ?_
  rintro xx w3 ⟨rfl, hb3⟩
  have z3 := z2.below hb3
  have hb03 := below_chain hb02 hb3
  have x3 := x2.below hb3
  have q3 := q2.below hb3
  clear a0 a1 a2 a3 a4 a5 a6 x2 z2 q2 hb02 hCl
  obtain ⟨⟨z30, z31⟩, ⟨f30, f31⟩⟩ := z3.get2
  have z9 := z3.set2 (.int .i64 0) (.slice none 0 0)
  have hb9 := below_set2 hb03 (by omega : w.heap.size ≤ w.heap.size + 2) (.int .i64 0) (.slice none 0 0)
  go_wp2
  generalize (w3.setCell ⟨w.heap.size + 2, 0, none⟩ (.int .i64 0)).setCell ⟨w.heap.size + 2, 1, none⟩ (.slice none 0 0) = w9 at *
  obtain ⟨⟨r0, r1⟩, _⟩ := z9.get2
  refine bodyPost_ret (v := .tuple #[.agg #[.int .i64 0, .slice none 0 0], .int .i64 0, .int .i64 9]) ?_ rfl ⟨rfl, hb9⟩
  rw [results_cell_tmp2 rfl]
  go_simp
set_option maxHeartbeats 4000000 in
theorem clerkAdmit_crowded (most ba ev nw : Int) (l : List Ak) (hs : List Hd) (ps : List Bp) (A H B : Option Addr) (c d e : Nat) (n v : Bytes) (x t : Nat) (w : World) (hg : CkGood ⟨most, l, ba, ev, nw, hs, bks ps⟩) (hl : ∀ x ∈ l, AkFits x) (hn : n.length ≤ maxLen) (hv : v.length ≤ maxLen)
    (hA : Row w A (qcells l)) (hB : Books w B ps) (hf : askFault n v = 0) (hm : (l.length : Int) < most) (hcl : closedB ⟨most, l, ba, ev, nw, hs, bks ps⟩ = false) (hN : decide (24 < namesN ⟨most, l, ba, ev, nw, hs, bks ps⟩ n) = true) :
    Calls Tryz.prog 17 #[.agg #[.int .i64 most, .slice A l.length c, .int .i64 ba, .int .i64 ev, .int .i64 nw, .slice H hs.length d, .slice B ps.length e], .agg #[.string (S n), .string (S v), .int .u64 (x : Int), .int .u64 (t : Int)]] w (AdmitNo 7 w) := by
  have hqg : QGood most l := hg.queue
  have hl30 : l.length ≤ 30 := by have := hqg.len; have := hqg.m30; omega
  have x0 := ((Bx.new w _ rfl _ [.int .i64 most, .slice A l.length c, .int .i64 ba, .int .i64 ev, .int .i64 nw, .slice H hs.length d, .slice B ps.length e] 28 rfl).alloc (.cells #[.string (S n), .string (S v), .int .u64 (x : Int), .int .u64 (t : Int)] 31)).alloc (.cells #[.int .i64 0, .slice none 0 0] 24)
  have y0 := (Bx.new (w.alloc (.cells #[.int .i64 most, .slice A l.length c, .int .i64 ba, .int .i64 ev, .int .i64 nw, .slice H hs.length d, .slice B ps.length e] 28)) (w.heap.size + 1) (by simp) _ [.string (S n), .string (S v), .int .u64 (x : Int), .int .u64 (t : Int)] 31 rfl).alloc (.cells #[.int .i64 0, .slice none 0 0] 24)
  have z0 := Bx.new ((w.alloc (.cells #[.int .i64 most, .slice A l.length c, .int .i64 ba, .int .i64 ev, .int .i64 nw, .slice H hs.length d, .slice B ps.length e] 28)).alloc (.cells #[.string (S n), .string (S v), .int .u64 (x : Int), .int .u64 (t : Int)] 31)) (w.heap.size + 2) (by simp) _ [.int .i64 0, .slice none 0 0] 24 rfl
  have hb0 : Below w.heap.size w (((w.alloc (.cells #[.int .i64 most, .slice A l.length c, .int .i64 ba, .int .i64 ev, .int .i64 nw, .slice H hs.length d, .slice B ps.length e] 28)).alloc (.cells #[.string (S n), .string (S v), .int .u64 (x : Int), .int .u64 (t : Int)] 31)).alloc (.cells #[.int .i64 0, .slice none 0 0] 24)) := balloc (balloc (balloc (Below.refl _ _) _) _) _
  have hA0 := hA.below hb0
  have hCl := fun (w : World) => Lib.hid (clerkClosed most ba ev nw A H B l.length c hs.length d ps.length e w _ hcl)
  obtain ⟨a0, a1, a2, a3, a4, a5, a6⟩ := x0.get7
  obtain ⟨⟨b0, b1, b2, b3⟩, _⟩ := y0.get4
  have hr0 := hg.form
  unfold formBad at hr0
  dsimp only at hr0
  rw [bks_length] at hr0
  have hp0 := hg.chain.pos
  have h40 := hg.chain.len
  dsimp only at hp0 h40
  obtain ⟨m, hpm⟩ : ∃ m, ps.length = m + 1 := ⟨ps.length - 1, by omega⟩
  obtain ⟨bk, hbk⟩ : ∃ u, (ps[m]'(by omega)).2.2 = u := ⟨_, rfl⟩
  obtain ⟨P1, hP1⟩ : ∃ u, (ps[m]'(by omega)).1 = u := ⟨_, rfl⟩
  obtain ⟨P2, hP2⟩ : ∃ u, (ps[m]'(by omega)).2.1 = u := ⟨_, rfl⟩
  have hlb : lastBk (⟨most, l, ba, ev, nw, hs, bks ps⟩ : Ck) = bk := by
    rw [lastBk_at (m := m) (by show (bks ps).length = _; rw [bks_length]; exact hpm)]
    show (bks ps)[m]'_ = bk
    rw [bks_get ps m (by omega), hbk]
  have hgd : Good bk := by rw [← hlb]; exact lastBk_good hg
  have hno : n ≠ [] := by
    intro h
    have := Bin.name_len ((askFault_ok _ _).1 hf).1
    rw [h] at this
    simp at this
  have hnn : (Bin.srt (namesOf bk (l ++ [(n, v, x, t)]) [])).length = namesN ⟨most, l, ba, ev, nw, hs, bks ps⟩ n := by
    rw [← namesN_asked ⟨most, l, ba, ev, nw, hs, bks ps⟩ (n, v, x, t) hno, ← hlb]
    rfl
  have hLb := fun (w : World) h => Lib.hid (clerkLastB B e m ps w hpm (by omega) h P1 P2 bk.length hP1 hP2 (by rw [hbk]))
  have hCr := fun (w : World) (Q : Option Addr) (d : Nat) h1 h2 => Lib.hid (clerkCrowded P1 Q P2 d bk (l ++ [(n, v, x, t)]) w (by have := hgd.len; omega) (by simp; omega) (fun y hy => by have := Bin.name_len (hgd.name y hy); unfold maxLen; omega) (fun y hy => by
    rcases List.mem_append.1 hy with h | h
    · exact (hl y h).1
    · rw [List.mem_singleton.1 h]; exact hn) h1 h2 true (show decide (24 < (Bin.srt (namesOf bk (l ++ [(n, v, x, t)]) [])).length) = true by rw [hnn]; exact hN))
  have rB0 := (hB.below hb0).each _ (List.getElem_mem (by omega : m < ps.length))
  have hB0 := hB.below hb0
  rw [hbk, hP1] at rB0
  have HPM := Lib.hid hpm
  have hPut := fun (w : World) h => Lib.hid (queuePut_ok most A c l n v x t w hqg hl hn hv h hf hm)
  clear hqg hl hn hv hA hB hf hcl hm hg hbk hP1 hP2 hlb hgd hno hnn hN hr0 hp0 h40 hl30 hpm
  go_enter Tryz.func17, Tryz.ntmps17
  go_wp2_with fail
  refine (hPut _ hA0).out.mono ?_
  rintro xx w1 ⟨D1, d1, rfl, hown1, hb1⟩
  generalize hT : l ++ [(n, v, x, t)] = T at *
  have HT := Lib.hid hT
  have hown2 := hown1.alloc (.cells #[.int .i64 most, .slice D1 T.length d1] 24)
  clear hT hown1
  have hb12 := balloc hb1 (.cells #[.int .i64 most, .slice D1 T.length d1] 24)
  have x2 := x0.below hb12
  have z2 := z0.below hb12
  have q2 := Bx.new w1 w1.heap.size rfl _ [.int .i64 most, .slice D1 T.length d1] 24 rfl
  have hb02 := below_chain hb0 hb12
  have hz2 := z2.lt
  have rB2 := rB0.below hb12
  have hB2 := hB0.below hb12
  clear a0 a1 a2 a3 a4 a5 a6 b0 b1 b2 b3 x0 y0 z0 hb1 hb12 hA0 hb0 hPut
  obtain ⟨a0, a1, a2, a3, a4, a5, a6⟩ := x2.get7
  go_wp2_with fail
  refine (hCl _).out.mono ?_
  rintro xx w3 ⟨rfl, hb3⟩
  have z3 := z2.below hb3
  have hb03 := below_chain hb02 hb3
  have x3 := x2.below hb3
  have q3 := q2.below hb3
  clear a0 a1 a2 a3 a4 a5 a6 x2 z2 q2 hb02 hCl
  obtain ⟨⟨z30, z31⟩, ⟨f30, f31⟩⟩ := z3.get2
  have rB3 := rB2.below hb3
  have hB3 := hB2.below hb3
  have hown3 := own_belowN hown2 hb3
  have a6 := x3.get7.2.2.2.2.2.2
  rw [HPM.out] at a6
  have qq1 := q3.get2.1.2
  clear hb3 rB2 hB2 hown2 rB0 hB0
  go_wp2
  refine wp_region_held_drew (S := fun W => W.cell? ⟨w.heap.size, 6, none⟩ = some (.slice B (m + 1) e) ∧ W.cell? ⟨w1.heap.size, 1, none⟩ = some (.slice D1 T.length d1)) (by kernel_rfl) ⟨a6, qq1⟩ (fun hHeld => ?_)
  refine wpAnyH_take (i := 0) (v := ?_) rfl (by kernel_rfl) (by kernel_rfl) (by kernel_rfl) (fun _ _ _ h => h) (Or.inl ⟨by rfl, ?_⟩) (by assumption) ?_
  rotate_left
  · intro wt hSt
    try dsimp only at hSt
    first | (go_simp; done) | (go_simp; with_reducible rfl)
  simp only [Act.put, List.setIfInBounds_toArray, List.set_cons_zero, List.set_cons_succ, List.getElem_toArray, List.getElem_cons_zero]
  refine wpAnyH_take (i := 1) (v := ?_) rfl (by kernel_rfl) (by kernel_rfl) (by kernel_rfl) (fun _ _ _ h => h) (Or.inl ⟨by rfl, ?_⟩) (by assumption) ?_
  rotate_left
  · intro wt hSt
    try dsimp only at hSt
    first | (go_simp; done) | (go_simp; with_reducible rfl)
  simp only [Act.put, List.setIfInBounds_toArray, List.set_cons_zero, List.set_cons_succ, List.getElem_toArray, List.getElem_cons_zero, List.getElem_cons_succ]
  refine wpAnyH_take (i := 3) (v := ?_) rfl (by kernel_rfl) (by kernel_rfl) (by kernel_rfl) (fun _ _ _ h => h) (Or.inl ⟨by rfl, ?_⟩) (by assumption) ?_
  rotate_left
  · intro wt hSt
    try dsimp only at hSt
    first | (go_simp; done) | (go_simp; with_reducible rfl)
  simp only [Act.put, List.setIfInBounds_toArray, List.set_cons_zero, List.set_cons_succ, List.getElem_toArray, List.getElem_cons_zero, List.getElem_cons_succ]
  refine wpAnyH_take (i := 4) (v := ?_) rfl (by kernel_rfl) (by kernel_rfl) (by kernel_rfl) (fun _ _ _ h => h) (Or.inl ⟨by rfl, ?_⟩) (by assumption) ?_
  rotate_left
  · intro wt hSt
    try dsimp only at hSt
    first | (go_simp; done) | (go_simp; with_reducible rfl)
  simp only [Act.put, List.setIfInBounds_toArray, List.set_cons_zero, List.set_cons_succ, List.getElem_toArray, List.getElem_cons_zero, List.getElem_cons_succ]
  refine wpAnyH_ready (rs := [2]) (by kernel_rfl) (by simp) ?_
  refine AllReadyH.cons rfl (fun K hK => ?_) AllReadyH.nil
  go_simp
  go_at_call 37
  refine (hLb _ (hB3.below (bdrew (Below.refl _ _)))).out.mono ?_
  rintro xx w6 ⟨rfl, hw⟩
  have hw6 := hw.symm
  subst hw6
  clear hw
  go_wp2_with fail
  refine hK.out _ _ ⟨a6, qq1⟩ (fun hHeld => ?_)
  clear hK K
  refine wpAnyH_ready (rs := [5]) (by kernel_rfl) (by simp) ?_
  refine AllReadyH.cons rfl (fun K hK => ?_) AllReadyH.nil
  go_simp
  go_at_call 36
  refine (hCr _ D1 d1 (rB3.drewN 1) ((Row.ownN hown3).drewN 1)).out.mono ?_
  rintro xx w7 ⟨rfl, hb7'⟩
  have hb7 := below_chain (bdrew (Below.refl w3.heap.size w3)) hb7'
  go_wp2_with fail
  refine hK.out _ _ ⟨kept a6 hb7, kept qq1 hb7⟩ (fun hHeld => ?_)
  clear hK K
  refine wpAnyH_done (by kernel_rfl) ?_ _
  have z7 := z3.below hb7
  have q7 := q3.below hb7
  have hb07 := below_chain hb03 hb7
  have hown7 := own_belowN hown3 hb7
  have hz7 := z7.lt
  clear z30 z31 f30 f31 z3 q3 hb03 hb7 hb7' x3 a6 qq1 hown3 rB3 hB3
  obtain ⟨⟨z30, z31⟩, ⟨f30, f31⟩⟩ := z7.get2
  obtain ⟨⟨q70, q71⟩, _⟩ := q7.get2
  have z9 := z7.set2 (.int .i64 0) (.slice none 0 0)
  have hb9 := below_set2 hb07 (by omega : w.heap.size ≤ w.heap.size + 2) (.int .i64 0) (.slice none 0 0)
  go_wp2
  generalize (w7.setCell ⟨w.heap.size + 2, 0, none⟩ (.int .i64 0)).setCell ⟨w.heap.size + 2, 1, none⟩ (.slice none 0 0) = w9 at *
  obtain ⟨⟨r0, r1⟩, _⟩ := z9.get2
  refine bodyPost_ret (v := .tuple #[.agg #[.int .i64 0, .slice none 0 0], .int .i64 0, .int .i64 7]) ?_ rfl ⟨rfl, hb9⟩
  rw [results_cell_tmp2 rfl]
  go_simp
/-- The queue with the request. -/
def AdmitGives (most : Int) (T : List Ak) (k : Nat) (w : World) (x : Ending) (w' : World) : Prop :=
  ∃ D d, x = .returned (.tuple #[.agg #[.int .i64 most, .slice D T.length d], .int .i64 (k : Int), .int .i64 0]) ∧ w'.ownsRow w.heap.size 31 4 (.slice D T.length d) T.length (qcells T) ∧ Below w.heap.size w w'
set_option maxHeartbeats 4000000 in
theorem clerkAdmit_ok (most ba ev nw : Int) (l : List Ak) (hs : List Hd) (ps : List Bp) (A H B : Option Addr) (c d e : Nat) (n v : Bytes) (x t : Nat) (w : World) (hg : CkGood ⟨most, l, ba, ev, nw, hs, bks ps⟩) (hl : ∀ x ∈ l, AkFits x) (hn : n.length ≤ maxLen) (hv : v.length ≤ maxLen)
    (hA : Row w A (qcells l)) (hB : Books w B ps) (hf : askFault n v = 0) (hm : (l.length : Int) < most) (hcl : closedB ⟨most, l, ba, ev, nw, hs, bks ps⟩ = false) (hN : decide (24 < namesN ⟨most, l, ba, ev, nw, hs, bks ps⟩ n) = false) :
    Calls Tryz.prog 17 #[.agg #[.int .i64 most, .slice A l.length c, .int .i64 ba, .int .i64 ev, .int .i64 nw, .slice H hs.length d, .slice B ps.length e], .agg #[.string (S n), .string (S v), .int .u64 (x : Int), .int .u64 (t : Int)]] w (AdmitGives most (l ++ [(n, v, x, t)]) l.length w) := by
  have hqg : QGood most l := hg.queue
  have hl30 : l.length ≤ 30 := by have := hqg.len; have := hqg.m30; omega
  have x0 := ((Bx.new w _ rfl _ [.int .i64 most, .slice A l.length c, .int .i64 ba, .int .i64 ev, .int .i64 nw, .slice H hs.length d, .slice B ps.length e] 28 rfl).alloc (.cells #[.string (S n), .string (S v), .int .u64 (x : Int), .int .u64 (t : Int)] 31)).alloc (.cells #[.int .i64 0, .slice none 0 0] 24)
  have y0 := (Bx.new (w.alloc (.cells #[.int .i64 most, .slice A l.length c, .int .i64 ba, .int .i64 ev, .int .i64 nw, .slice H hs.length d, .slice B ps.length e] 28)) (w.heap.size + 1) (by simp) _ [.string (S n), .string (S v), .int .u64 (x : Int), .int .u64 (t : Int)] 31 rfl).alloc (.cells #[.int .i64 0, .slice none 0 0] 24)
  have z0 := Bx.new ((w.alloc (.cells #[.int .i64 most, .slice A l.length c, .int .i64 ba, .int .i64 ev, .int .i64 nw, .slice H hs.length d, .slice B ps.length e] 28)).alloc (.cells #[.string (S n), .string (S v), .int .u64 (x : Int), .int .u64 (t : Int)] 31)) (w.heap.size + 2) (by simp) _ [.int .i64 0, .slice none 0 0] 24 rfl
  have hb0 : Below w.heap.size w (((w.alloc (.cells #[.int .i64 most, .slice A l.length c, .int .i64 ba, .int .i64 ev, .int .i64 nw, .slice H hs.length d, .slice B ps.length e] 28)).alloc (.cells #[.string (S n), .string (S v), .int .u64 (x : Int), .int .u64 (t : Int)] 31)).alloc (.cells #[.int .i64 0, .slice none 0 0] 24)) := balloc (balloc (balloc (Below.refl _ _) _) _) _
  have hA0 := hA.below hb0
  have hCl := fun (w : World) => Lib.hid (clerkClosed most ba ev nw A H B l.length c hs.length d ps.length e w _ hcl)
  obtain ⟨a0, a1, a2, a3, a4, a5, a6⟩ := x0.get7
  obtain ⟨⟨b0, b1, b2, b3⟩, _⟩ := y0.get4
  have hr0 := hg.form
  unfold formBad at hr0
  dsimp only at hr0
  rw [bks_length] at hr0
  have hp0 := hg.chain.pos
  have h40 := hg.chain.len
  dsimp only at hp0 h40
  obtain ⟨m, hpm⟩ : ∃ m, ps.length = m + 1 := ⟨ps.length - 1, by omega⟩
  obtain ⟨bk, hbk⟩ : ∃ u, (ps[m]'(by omega)).2.2 = u := ⟨_, rfl⟩
  obtain ⟨P1, hP1⟩ : ∃ u, (ps[m]'(by omega)).1 = u := ⟨_, rfl⟩
  obtain ⟨P2, hP2⟩ : ∃ u, (ps[m]'(by omega)).2.1 = u := ⟨_, rfl⟩
  have hlb : lastBk (⟨most, l, ba, ev, nw, hs, bks ps⟩ : Ck) = bk := by
    rw [lastBk_at (m := m) (by show (bks ps).length = _; rw [bks_length]; exact hpm)]
    show (bks ps)[m]'_ = bk
    rw [bks_get ps m (by omega), hbk]
  have hgd : Good bk := by rw [← hlb]; exact lastBk_good hg
  have hno : n ≠ [] := by
    intro h
    have := Bin.name_len ((askFault_ok _ _).1 hf).1
    rw [h] at this
    simp at this
  have hnn : (Bin.srt (namesOf bk (l ++ [(n, v, x, t)]) [])).length = namesN ⟨most, l, ba, ev, nw, hs, bks ps⟩ n := by
    rw [← namesN_asked ⟨most, l, ba, ev, nw, hs, bks ps⟩ (n, v, x, t) hno, ← hlb]
    rfl
  have hLb := fun (w : World) h => Lib.hid (clerkLastB B e m ps w hpm (by omega) h P1 P2 bk.length hP1 hP2 (by rw [hbk]))
  have hCr := fun (w : World) (Q : Option Addr) (d : Nat) h1 h2 => Lib.hid (clerkCrowded P1 Q P2 d bk (l ++ [(n, v, x, t)]) w (by have := hgd.len; omega) (by simp; omega) (fun y hy => by have := Bin.name_len (hgd.name y hy); unfold maxLen; omega) (fun y hy => by
    rcases List.mem_append.1 hy with h | h
    · exact (hl y h).1
    · rw [List.mem_singleton.1 h]; exact hn) h1 h2 false (show decide (24 < (Bin.srt (namesOf bk (l ++ [(n, v, x, t)]) [])).length) = false by rw [hnn]; exact hN))
  have rB0 := (hB.below hb0).each _ (List.getElem_mem (by omega : m < ps.length))
  have hB0 := hB.below hb0
  rw [hbk, hP1] at rB0
  have HPM := Lib.hid hpm
  have hPut := fun (w : World) h => Lib.hid (queuePut_ok most A c l n v x t w hqg hl hn hv h hf hm)
  clear hqg hl hn hv hA hB hf hcl hm hg hbk hP1 hP2 hlb hgd hno hnn hN hr0 hp0 h40 hl30 hpm
  go_enter Tryz.func17, Tryz.ntmps17
  go_wp2_with fail
  refine (hPut _ hA0).out.mono ?_
  rintro xx w1 ⟨D1, d1, rfl, hown1, hb1⟩
  generalize hT : l ++ [(n, v, x, t)] = T at *
  have HT := Lib.hid hT
  have hown2 := hown1.alloc (.cells #[.int .i64 most, .slice D1 T.length d1] 24)
  clear hT hown1
  have hb12 := balloc hb1 (.cells #[.int .i64 most, .slice D1 T.length d1] 24)
  have x2 := x0.below hb12
  have z2 := z0.below hb12
  have q2 := Bx.new w1 w1.heap.size rfl _ [.int .i64 most, .slice D1 T.length d1] 24 rfl
  have hb02 := below_chain hb0 hb12
  have hz2 := z2.lt
  have rB2 := rB0.below hb12
  have hB2 := hB0.below hb12
  clear a0 a1 a2 a3 a4 a5 a6 b0 b1 b2 b3 x0 y0 z0 hb1 hb12 hA0 hb0 hPut
  obtain ⟨a0, a1, a2, a3, a4, a5, a6⟩ := x2.get7
  go_wp2_with fail
  refine (hCl _).out.mono ?_
  rintro xx w3 ⟨rfl, hb3⟩
  have z3 := z2.below hb3
  have hb03 := below_chain hb02 hb3
  have x3 := x2.below hb3
  have q3 := q2.below hb3
  clear a0 a1 a2 a3 a4 a5 a6 x2 z2 q2 hb02 hCl
  obtain ⟨⟨z30, z31⟩, ⟨f30, f31⟩⟩ := z3.get2
  have rB3 := rB2.below hb3
  have hB3 := hB2.below hb3
  have hown3 := own_belowN hown2 hb3
  have a6 := x3.get7.2.2.2.2.2.2
  rw [HPM.out] at a6
  have qq1 := q3.get2.1.2
  clear hb3 rB2 hB2 hown2 rB0 hB0
  go_wp2
  refine wp_region_held_drew (S := fun W => W.cell? ⟨w.heap.size, 6, none⟩ = some (.slice B (m + 1) e) ∧ W.cell? ⟨w1.heap.size, 1, none⟩ = some (.slice D1 T.length d1)) (by kernel_rfl) ⟨a6, qq1⟩ (fun hHeld => ?_)
  refine wpAnyH_take (i := 0) (v := ?_) rfl (by kernel_rfl) (by kernel_rfl) (by kernel_rfl) (fun _ _ _ h => h) (Or.inl ⟨by rfl, ?_⟩) (by assumption) ?_
  rotate_left
  · intro wt hSt
    try dsimp only at hSt
    first | (go_simp; done) | (go_simp; with_reducible rfl)
  simp only [Act.put, List.setIfInBounds_toArray, List.set_cons_zero, List.set_cons_succ, List.getElem_toArray, List.getElem_cons_zero]
  refine wpAnyH_take (i := 1) (v := ?_) rfl (by kernel_rfl) (by kernel_rfl) (by kernel_rfl) (fun _ _ _ h => h) (Or.inl ⟨by rfl, ?_⟩) (by assumption) ?_
  rotate_left
  · intro wt hSt
    try dsimp only at hSt
    first | (go_simp; done) | (go_simp; with_reducible rfl)
  simp only [Act.put, List.setIfInBounds_toArray, List.set_cons_zero, List.set_cons_succ, List.getElem_toArray, List.getElem_cons_zero, List.getElem_cons_succ]
  refine wpAnyH_take (i := 3) (v := ?_) rfl (by kernel_rfl) (by kernel_rfl) (by kernel_rfl) (fun _ _ _ h => h) (Or.inl ⟨by rfl, ?_⟩) (by assumption) ?_
  rotate_left
  · intro wt hSt
    try dsimp only at hSt
    first | (go_simp; done) | (go_simp; with_reducible rfl)
  simp only [Act.put, List.setIfInBounds_toArray, List.set_cons_zero, List.set_cons_succ, List.getElem_toArray, List.getElem_cons_zero, List.getElem_cons_succ]
  refine wpAnyH_take (i := 4) (v := ?_) rfl (by kernel_rfl) (by kernel_rfl) (by kernel_rfl) (fun _ _ _ h => h) (Or.inl ⟨by rfl, ?_⟩) (by assumption) ?_
  rotate_left
  · intro wt hSt
    try dsimp only at hSt
    first | (go_simp; done) | (go_simp; with_reducible rfl)
  simp only [Act.put, List.setIfInBounds_toArray, List.set_cons_zero, List.set_cons_succ, List.getElem_toArray, List.getElem_cons_zero, List.getElem_cons_succ]
  refine wpAnyH_ready (rs := [2]) (by kernel_rfl) (by simp) ?_
  refine AllReadyH.cons rfl (fun K hK => ?_) AllReadyH.nil
  go_simp
  go_at_call 37
  refine (hLb _ (hB3.below (bdrew (Below.refl _ _)))).out.mono ?_
  rintro xx w6 ⟨rfl, hw⟩
  have hw6 := hw.symm
  subst hw6
  clear hw
  go_wp2_with fail
  refine hK.out _ _ ⟨a6, qq1⟩ (fun hHeld => ?_)
  clear hK K
  refine wpAnyH_ready (rs := [5]) (by kernel_rfl) (by simp) ?_
  refine AllReadyH.cons rfl (fun K hK => ?_) AllReadyH.nil
  go_simp
  go_at_call 36
  refine (hCr _ D1 d1 (rB3.drewN 1) ((Row.ownN hown3).drewN 1)).out.mono ?_
  rintro xx w7 ⟨rfl, hb7'⟩
  have hb7 := below_chain (bdrew (Below.refl w3.heap.size w3)) hb7'
  go_wp2_with fail
  refine hK.out _ _ ⟨kept a6 hb7, kept qq1 hb7⟩ (fun hHeld => ?_)
  clear hK K
  refine wpAnyH_done (by kernel_rfl) ?_ _
  have z7 := z3.below hb7
  have q7 := q3.below hb7
  have hb07 := below_chain hb03 hb7
  have hown7 := own_belowN hown3 hb7
  have hz7 := z7.lt
  clear z30 z31 f30 f31 z3 q3 hb03 hb7 hb7' x3 a6 qq1 hown3 rB3 hB3
  obtain ⟨⟨z30, z31⟩, ⟨f30, f31⟩⟩ := z7.get2
  obtain ⟨⟨q70, q71⟩, _⟩ := q7.get2
  have z9 := z7.set2 (.int .i64 most) (.slice D1 T.length d1)
  have hb9 := below_set2 hb07 (by omega : w.heap.size ≤ w.heap.size + 2) (.int .i64 most) (.slice D1 T.length d1)
  have hg9 := (grown_setQ w7 ⟨w.heap.size + 2, 0, none⟩ (.int .i64 most)).trans (grown_setQ _ ⟨w.heap.size + 2, 1, none⟩ (.slice D1 T.length d1))
  have hown9 := own_baseQ (hown7.kept hg9 (.inr fun e => absurd (hown7.lt _ e).1 (by simp; try omega))) (by simp; try omega : w.heap.size ≤ _)
  go_wp2
  generalize (w7.setCell ⟨w.heap.size + 2, 0, none⟩ (.int .i64 most)).setCell ⟨w.heap.size + 2, 1, none⟩ (.slice D1 T.length d1) = w9 at *
  obtain ⟨⟨r0, r1⟩, _⟩ := z9.get2
  refine bodyPost_ret (v := .tuple #[.agg #[.int .i64 most, .slice D1 T.length d1], .int .i64 (l.length : Int), .int .i64 0]) ?_ rfl ⟨D1, d1, rfl, hown9, hb9⟩
  rw [results_cell_tmp2 rfl]
  go_simp
/-- The error of a request. -/
theorem clerkAdmit_no (most ba ev nw : Int) (l : List Ak) (hs : List Hd) (ps : List Bp) (A H B : Option Addr) (c d e : Nat) (n v : Bytes) (x t : Nat) (w : World) (hg : CkGood ⟨most, l, ba, ev, nw, hs, bks ps⟩) (hl : ∀ x ∈ l, AkFits x) (hn : n.length ≤ maxLen) (hv : v.length ≤ maxLen)
    (hA : Row w A (qcells l)) (hB : Books w B ps) (r : Int) (hr : ckAskErr ⟨most, l, ba, ev, nw, hs, bks ps⟩ n v = r) (h0 : r ≠ 0) :
    Calls Tryz.prog 17 #[.agg #[.int .i64 most, .slice A l.length c, .int .i64 ba, .int .i64 ev, .int .i64 nw, .slice H hs.length d, .slice B ps.length e], .agg #[.string (S n), .string (S v), .int .u64 (x : Int), .int .u64 (t : Int)]] w (AdmitNo r w) := by
  unfold ckAskErr at hr
  dsimp only at hr
  have hlm := hg.queue.len
  dsimp only at hlm
  by_cases hf : askFault n v = 0
  · rw [if_pos hf] at hr
    cases hc : closedB ⟨most, l, ba, ev, nw, hs, bks ps⟩ with
    | true =>
      rw [hc, if_pos rfl] at hr
      subst hr
      by_cases hm : (l.length : Int) = most
      · exact clerkAdmit_7 most ba ev nw l hs ps A H B c d e n v x t w hg hl hn hv hA hf hm true hc
      · exact clerkAdmit_9 most ba ev nw l hs ps A H B c d e n v x t w hg hl hn hv hA hf (by omega) hc
    | false =>
      rw [hc, if_neg (by decide)] at hr
      by_cases hm : (l.length : Int) = most
      · rw [if_pos (.inl hm)] at hr
        subst hr
        exact clerkAdmit_7 most ba ev nw l hs ps A H B c d e n v x t w hg hl hn hv hA hf hm false hc
      · by_cases hN : 24 < namesN ⟨most, l, ba, ev, nw, hs, bks ps⟩ n
        · rw [if_pos (.inr hN)] at hr
          subst hr
          exact clerkAdmit_crowded most ba ev nw l hs ps A H B c d e n v x t w hg hl hn hv hA hB hf (by omega) hc (decide_eq_true hN)
        · rw [if_neg (by rintro (h | h); exact hm h; exact hN h)] at hr
          exact absurd hr.symm h0
  · rw [if_neg hf] at hr
    obtain ⟨bc, hbc⟩ : ∃ u, closedB ⟨most, l, ba, ev, nw, hs, bks ps⟩ = u := ⟨_, rfl⟩
    rcases (show r = 3 ∨ r = 2 by rw [← hr] at h0 ⊢; unfold askFault at h0 ⊢; split <;> rename_i h1 <;> simp only [h1, if_true] at h0 <;> first | (split <;> rename_i h2 <;> simp_all) | simp_all) with rfl | rfl
    · exact clerkAdmit_3 most ba ev nw l hs ps A H B c d e n v x t w hg hl hn hv hA hr bc hbc
    · exact clerkAdmit_2 most ba ev nw l hs ps A H B c d e n v x t w hg hl hn hv hA hr bc hbc
end Go.Proofs.YtjcockcilkiggaaGreat
