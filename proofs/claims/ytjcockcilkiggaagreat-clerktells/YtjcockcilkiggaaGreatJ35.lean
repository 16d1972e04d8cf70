/- Package clerk: Ask returns the clerk with the request behind all others and the time when it is in a book, or the error. It writes nothing that was there. -/
import Derived.Test.YtjcockcilkiggaaGreatJ29
import Derived.Test.YtjcockcilkiggaaGreatJ31
import Derived.Test.YtjcockcilkiggaaGreatJ33
import Derived.Test.YtjcockcilkiggaaGreatJ34
namespace Go.Proofs.YtjcockcilkiggaaGreat
set_option maxRecDepth 100000
open Go.RowKit

set_option maxHeartbeats 4000000 in
theorem clerkAsk_fault (most ba ev nw : Int) (l : List Ak) (hs : List Hd) (ps : List Bp) (A H B : Option Addr) (c d e : Nat) (n v : Bytes) (x t : Nat) (w : World) (hl : l.length ≤ maxLen) (hlf : ∀ x ∈ l, AkFits x) (hh : hs.length ≤ maxLen) (hp : ps.length ≤ maxLen) (hpb : ∀ p ∈ ps, p.2.2.length ≤ maxLen ∧ ∀ x ∈ p.2.2, x.1.length ≤ maxLen ∧ x.2.length ≤ maxLen) (hA : Row w A (qcells l)) (hH : Row w H (hcells hs)) (hB : Books w B ps) (r : Int) (hr : ckfault ⟨most, l, ba, ev, nw, hs, bks ps⟩ = r) (h0 : r ≠ 0) : Calls Tryz.prog 5 #[.agg #[.int .i64 most, .slice A l.length c, .int .i64 ba, .int .i64 ev, .int .i64 nw, .slice H hs.length d, .slice B ps.length e], .agg #[.string (S n), .string (S v), .int .u64 (x : Int), .int .u64 (t : Int)]] w (ClerkNo r w) := by
  have hb0 : Below w.heap.size w (((w.alloc (.cells #[.int .i64 most, .slice A l.length c, .int .i64 ba, .int .i64 ev, .int .i64 nw, .slice H hs.length d, .slice B ps.length e] 28)).alloc (.cells #[.string (S n), .string (S v), .int .u64 (x : Int), .int .u64 (t : Int)] 31)).alloc (.cells #[.int .i64 0, .slice none 0 0, .int .i64 0, .int .i64 0, .int .i64 0, .slice none 0 0, .slice none 0 0] 28)) := balloc (balloc (balloc (Below.refl _ _) _) _) _
  have hs0 : (((w.alloc (.cells #[.int .i64 most, .slice A l.length c, .int .i64 ba, .int .i64 ev, .int .i64 nw, .slice H hs.length d, .slice B ps.length e] 28)).alloc (.cells #[.string (S n), .string (S v), .int .u64 (x : Int), .int .u64 (t : Int)] 31)).alloc (.cells #[.int .i64 0, .slice none 0 0, .int .i64 0, .int .i64 0, .int .i64 0, .slice none 0 0, .slice none 0 0] 28)).heap.size = w.heap.size + 3 := by simp
  have x0 := ((Bx.new w _ rfl _ [.int .i64 most, .slice A l.length c, .int .i64 ba, .int .i64 ev, .int .i64 nw, .slice H hs.length d, .slice B ps.length e] 28 rfl).alloc (.cells #[.string (S n), .string (S v), .int .u64 (x : Int), .int .u64 (t : Int)] 31)).alloc (.cells #[.int .i64 0, .slice none 0 0, .int .i64 0, .int .i64 0, .int .i64 0, .slice none 0 0, .slice none 0 0] 28)
  have y0 := (Bx.new (w.alloc (.cells #[.int .i64 most, .slice A l.length c, .int .i64 ba, .int .i64 ev, .int .i64 nw, .slice H hs.length d, .slice B ps.length e] 28)) (w.heap.size + 1) (by simp) _ [.string (S n), .string (S v), .int .u64 (x : Int), .int .u64 (t : Int)] 31 rfl).alloc (.cells #[.int .i64 0, .slice none 0 0, .int .i64 0, .int .i64 0, .int .i64 0, .slice none 0 0, .slice none 0 0] 28)
  have z0 := Bx.new ((w.alloc (.cells #[.int .i64 most, .slice A l.length c, .int .i64 ba, .int .i64 ev, .int .i64 nw, .slice H hs.length d, .slice B ps.length e] 28)).alloc (.cells #[.string (S n), .string (S v), .int .u64 (x : Int), .int .u64 (t : Int)] 31)) (w.heap.size + 2) (by simp) _ [.int .i64 0, .slice none 0 0, .int .i64 0, .int .i64 0, .int .i64 0, .slice none 0 0, .slice none 0 0] 28 rfl
  have hA0 := hA.below hb0
  have hH0 := hH.below hb0
  have hB0 := hB.below hb0
  obtain ⟨a0, a1, a2, a3, a4, a5, a6⟩ := x0.get7
  have hCk := fun (w : World) h1 h2 h3 => Lib.hid (clerkCheck most ba ev nw l hs ps A H B c d e w hl hlf hh hp hpb h1 h2 h3 r hr)
  have c0 : (r != 0) = true := bne_iff_ne.2 h0
  clear hl hlf hh hp hpb hA hH hB hr h0
  go_enter Tryz.func5, Tryz.ntmps5
  go_wp2_with fail
  refine (hCk _ hA0 hH0 hB0).out.mono ?_
  rintro xx w1 ⟨rfl, hb1⟩
  have x1 := x0.below hb1
  have y1 := y0.below hb1
  have z1 := z0.below hb1
  have hb01 := below_chain hb0 hb1
  have hs1 := hb1.size
  have hz1 := z1.lt
  clear a0 a1 a2 a3 a4 a5 a6 x0 y0 z0 hA0 hH0 hB0 hCk
  have z9 : Bx (((((((w1.setCell ⟨w.heap.size + 2, 0, none⟩ (.int .i64 0)).setCell ⟨w.heap.size + 2, 1, none⟩ (.slice none 0 0)).setCell ⟨w.heap.size + 2, 2, none⟩ (.int .i64 0)).setCell ⟨w.heap.size + 2, 3, none⟩ (.int .i64 0)).setCell ⟨w.heap.size + 2, 4, none⟩ (.int .i64 0)).setCell ⟨w.heap.size + 2, 5, none⟩ (.slice none 0 0)).setCell ⟨w.heap.size + 2, 6, none⟩ (.slice none 0 0)) (w.heap.size + 2) [.int .i64 0, .slice none 0 0, .int .i64 0, .int .i64 0, .int .i64 0, .slice none 0 0, .slice none 0 0] := (((((((z1.set 0 (.int .i64 0)).set 1 (.slice none 0 0)).set 2 (.int .i64 0)).set 3 (.int .i64 0)).set 4 (.int .i64 0)).set 5 (.slice none 0 0)).set 6 (.slice none 0 0))
  have hb9 := Lib.hid (((((((hb01.setCell (p := ⟨w.heap.size + 2, 0, none⟩) (by omega : w.heap.size ≤ w.heap.size + 2) (.int .i64 0)).setCell (p := ⟨w.heap.size + 2, 1, none⟩) (by omega : w.heap.size ≤ w.heap.size + 2) (.slice none 0 0)).setCell (p := ⟨w.heap.size + 2, 2, none⟩) (by omega : w.heap.size ≤ w.heap.size + 2) (.int .i64 0)).setCell (p := ⟨w.heap.size + 2, 3, none⟩) (by omega : w.heap.size ≤ w.heap.size + 2) (.int .i64 0)).setCell (p := ⟨w.heap.size + 2, 4, none⟩) (by omega : w.heap.size ≤ w.heap.size + 2) (.int .i64 0)).setCell (p := ⟨w.heap.size + 2, 5, none⟩) (by omega : w.heap.size ≤ w.heap.size + 2) (.slice none 0 0)).setCell (p := ⟨w.heap.size + 2, 6, none⟩) (by omega : w.heap.size ≤ w.heap.size + 2) (.slice none 0 0))
  obtain ⟨b0, b1, b2, b3, b4, b5, b6⟩ := z1.get7
  have g0 := z1.f 0 (by simp)
  have g1 := z1.f 1 (by simp)
  have g2 := z1.f 2 (by simp)
  have g3 := z1.f 3 (by simp)
  have g4 := z1.f 4 (by simp)
  have g5 := z1.f 5 (by simp)
  have g6 := z1.f 6 (by simp)
  clear z1 
  go_wp2
  generalize (((((((w1.setCell ⟨w.heap.size + 2, 0, none⟩ (.int .i64 0)).setCell ⟨w.heap.size + 2, 1, none⟩ (.slice none 0 0)).setCell ⟨w.heap.size + 2, 2, none⟩ (.int .i64 0)).setCell ⟨w.heap.size + 2, 3, none⟩ (.int .i64 0)).setCell ⟨w.heap.size + 2, 4, none⟩ (.int .i64 0)).setCell ⟨w.heap.size + 2, 5, none⟩ (.slice none 0 0)).setCell ⟨w.heap.size + 2, 6, none⟩ (.slice none 0 0)) = w9 at *
  obtain ⟨r0, r1, r2, r3, r4, r5, r6⟩ := z9.get7
  refine bodyPost_ret (v := .tuple #[.agg #[.int .i64 0, .slice none 0 0, .int .i64 0, .int .i64 0, .int .i64 0, .slice none 0 0, .slice none 0 0], .int .i64 0, .int .i64 r]) ?_ rfl ⟨rfl, hb9.out⟩
  rw [results_cell_tmp2 rfl]
  go_simp
set_option maxHeartbeats 4000000 in
theorem clerkAsk_admit (most ba ev nw : Int) (l : List Ak) (hs : List Hd) (ps : List Bp) (A H B : Option Addr) (c d e : Nat) (n v : Bytes) (x t : Nat) (w : World) (hl : l.length ≤ maxLen) (hlf : ∀ x ∈ l, AkFits x) (hh : hs.length ≤ maxLen) (hp : ps.length ≤ maxLen) (hpb : ∀ p ∈ ps, p.2.2.length ≤ maxLen ∧ ∀ x ∈ p.2.2, x.1.length ≤ maxLen ∧ x.2.length ≤ maxLen) (hn : n.length ≤ maxLen) (hv : v.length ≤ maxLen) (hA : Row w A (qcells l)) (hH : Row w H (hcells hs)) (hB : Books w B ps) (hg : CkGood ⟨most, l, ba, ev, nw, hs, bks ps⟩) (r : Int) (hr : ckAskErr ⟨most, l, ba, ev, nw, hs, bks ps⟩ n v = r) (h0 : r ≠ 0) : Calls Tryz.prog 5 #[.agg #[.int .i64 most, .slice A l.length c, .int .i64 ba, .int .i64 ev, .int .i64 nw, .slice H hs.length d, .slice B ps.length e], .agg #[.string (S n), .string (S v), .int .u64 (x : Int), .int .u64 (t : Int)]] w (ClerkNo r w) := by
  have hb0 : Below w.heap.size w (((w.alloc (.cells #[.int .i64 most, .slice A l.length c, .int .i64 ba, .int .i64 ev, .int .i64 nw, .slice H hs.length d, .slice B ps.length e] 28)).alloc (.cells #[.string (S n), .string (S v), .int .u64 (x : Int), .int .u64 (t : Int)] 31)).alloc (.cells #[.int .i64 0, .slice none 0 0, .int .i64 0, .int .i64 0, .int .i64 0, .slice none 0 0, .slice none 0 0] 28)) := balloc (balloc (balloc (Below.refl _ _) _) _) _
  have hs0 : (((w.alloc (.cells #[.int .i64 most, .slice A l.length c, .int .i64 ba, .int .i64 ev, .int .i64 nw, .slice H hs.length d, .slice B ps.length e] 28)).alloc (.cells #[.string (S n), .string (S v), .int .u64 (x : Int), .int .u64 (t : Int)] 31)).alloc (.cells #[.int .i64 0, .slice none 0 0, .int .i64 0, .int .i64 0, .int .i64 0, .slice none 0 0, .slice none 0 0] 28)).heap.size = w.heap.size + 3 := by simp
  have x0 := ((Bx.new w _ rfl _ [.int .i64 most, .slice A l.length c, .int .i64 ba, .int .i64 ev, .int .i64 nw, .slice H hs.length d, .slice B ps.length e] 28 rfl).alloc (.cells #[.string (S n), .string (S v), .int .u64 (x : Int), .int .u64 (t : Int)] 31)).alloc (.cells #[.int .i64 0, .slice none 0 0, .int .i64 0, .int .i64 0, .int .i64 0, .slice none 0 0, .slice none 0 0] 28)
  have y0 := (Bx.new (w.alloc (.cells #[.int .i64 most, .slice A l.length c, .int .i64 ba, .int .i64 ev, .int .i64 nw, .slice H hs.length d, .slice B ps.length e] 28)) (w.heap.size + 1) (by simp) _ [.string (S n), .string (S v), .int .u64 (x : Int), .int .u64 (t : Int)] 31 rfl).alloc (.cells #[.int .i64 0, .slice none 0 0, .int .i64 0, .int .i64 0, .int .i64 0, .slice none 0 0, .slice none 0 0] 28)
  have z0 := Bx.new ((w.alloc (.cells #[.int .i64 most, .slice A l.length c, .int .i64 ba, .int .i64 ev, .int .i64 nw, .slice H hs.length d, .slice B ps.length e] 28)).alloc (.cells #[.string (S n), .string (S v), .int .u64 (x : Int), .int .u64 (t : Int)] 31)) (w.heap.size + 2) (by simp) _ [.int .i64 0, .slice none 0 0, .int .i64 0, .int .i64 0, .int .i64 0, .slice none 0 0, .slice none 0 0] 28 rfl
  have hA0 := hA.below hb0
  have hH0 := hH.below hb0
  have hB0 := hB.below hb0
  obtain ⟨a0, a1, a2, a3, a4, a5, a6⟩ := x0.get7
  have hCk := fun (w : World) h1 h2 h3 => Lib.hid (clerkCheck most ba ev nw l hs ps A H B c d e w hl hlf hh hp hpb h1 h2 h3 0 ((ckfault_ok _).2 hg))
  have hAd := fun (w : World) h1 h2 => Lib.hid (clerkAdmit_no most ba ev nw l hs ps A H B c d e n v x t w hg hlf hn hv h1 h2 r hr h0)
  have c0 : (r != 0) = true := bne_iff_ne.2 h0
  clear hl hlf hh hp hpb hH hr h0 hg hn hv
  go_enter Tryz.func5, Tryz.ntmps5
  go_wp2_with fail
  refine (hCk _ hA0 hH0 hB0).out.mono ?_
  rintro xx w1 ⟨rfl, hb1⟩
  have x1 := x0.below hb1
  have y1 := y0.below hb1
  have z1 := z0.below hb1
  have hb01 := below_chain hb0 hb1
  have hs1 := hb1.size
  have hz1 := z1.lt
  clear a0 a1 a2 a3 a4 a5 a6 x0 y0 z0 hA0 hH0 hB0 hCk
  have hA1 := hA.below hb01
  have hB1 := hB.below hb01
  obtain ⟨a0, a1, a2, a3, a4, a5, a6⟩ := x1.get7
  obtain ⟨⟨y10, y11, y12, y13⟩, _⟩ := y1.get4
  go_wp2_with fail
  refine (hAd _ hA1 hB1).out.mono ?_
  rintro xx w2 ⟨rfl, hb2⟩
  have hb12 := balloc hb2 (.cells #[.int .i64 0, .slice none 0 0] 24)
  have z3 := z1.below hb12
  have hb03 := below_chain hb01 hb12
  clear a0 a1 a2 a3 a4 a5 a6 y10 y11 y12 y13 x1 y1 z1 hb01 hb1 hb0
  have z9 : Bx ((((((((w2.alloc (.cells #[.int .i64 0, .slice none 0 0] 24)).setCell ⟨w.heap.size + 2, 0, none⟩ (.int .i64 0)).setCell ⟨w.heap.size + 2, 1, none⟩ (.slice none 0 0)).setCell ⟨w.heap.size + 2, 2, none⟩ (.int .i64 0)).setCell ⟨w.heap.size + 2, 3, none⟩ (.int .i64 0)).setCell ⟨w.heap.size + 2, 4, none⟩ (.int .i64 0)).setCell ⟨w.heap.size + 2, 5, none⟩ (.slice none 0 0)).setCell ⟨w.heap.size + 2, 6, none⟩ (.slice none 0 0)) (w.heap.size + 2) [.int .i64 0, .slice none 0 0, .int .i64 0, .int .i64 0, .int .i64 0, .slice none 0 0, .slice none 0 0] := (((((((z3.set 0 (.int .i64 0)).set 1 (.slice none 0 0)).set 2 (.int .i64 0)).set 3 (.int .i64 0)).set 4 (.int .i64 0)).set 5 (.slice none 0 0)).set 6 (.slice none 0 0))
  have hb9 := Lib.hid (((((((hb03.setCell (p := ⟨w.heap.size + 2, 0, none⟩) (by omega : w.heap.size ≤ w.heap.size + 2) (.int .i64 0)).setCell (p := ⟨w.heap.size + 2, 1, none⟩) (by omega : w.heap.size ≤ w.heap.size + 2) (.slice none 0 0)).setCell (p := ⟨w.heap.size + 2, 2, none⟩) (by omega : w.heap.size ≤ w.heap.size + 2) (.int .i64 0)).setCell (p := ⟨w.heap.size + 2, 3, none⟩) (by omega : w.heap.size ≤ w.heap.size + 2) (.int .i64 0)).setCell (p := ⟨w.heap.size + 2, 4, none⟩) (by omega : w.heap.size ≤ w.heap.size + 2) (.int .i64 0)).setCell (p := ⟨w.heap.size + 2, 5, none⟩) (by omega : w.heap.size ≤ w.heap.size + 2) (.slice none 0 0)).setCell (p := ⟨w.heap.size + 2, 6, none⟩) (by omega : w.heap.size ≤ w.heap.size + 2) (.slice none 0 0))
  obtain ⟨b0, b1, b2, b3, b4, b5, b6⟩ := z3.get7
  have g0 := z3.f 0 (by simp)
  have g1 := z3.f 1 (by simp)
  have g2 := z3.f 2 (by simp)
  have g3 := z3.f 3 (by simp)
  have g4 := z3.f 4 (by simp)
  have g5 := z3.f 5 (by simp)
  have g6 := z3.f 6 (by simp)
  clear z3 
  go_wp2
  generalize ((((((((w2.alloc (.cells #[.int .i64 0, .slice none 0 0] 24)).setCell ⟨w.heap.size + 2, 0, none⟩ (.int .i64 0)).setCell ⟨w.heap.size + 2, 1, none⟩ (.slice none 0 0)).setCell ⟨w.heap.size + 2, 2, none⟩ (.int .i64 0)).setCell ⟨w.heap.size + 2, 3, none⟩ (.int .i64 0)).setCell ⟨w.heap.size + 2, 4, none⟩ (.int .i64 0)).setCell ⟨w.heap.size + 2, 5, none⟩ (.slice none 0 0)).setCell ⟨w.heap.size + 2, 6, none⟩ (.slice none 0 0)) = w9 at *
  obtain ⟨r0, r1, r2, r3, r4, r5, r6⟩ := z9.get7
  refine bodyPost_ret (v := .tuple #[.agg #[.int .i64 0, .slice none 0 0, .int .i64 0, .int .i64 0, .int .i64 0, .slice none 0 0, .slice none 0 0], .int .i64 0, .int .i64 r]) ?_ rfl ⟨rfl, hb9.out⟩
  rw [results_cell_tmp2 rfl]
  go_simp
set_option maxHeartbeats 8000000 in
theorem clerkAsk_ok (most ba ev nw : Int) (l : List Ak) (hs : List Hd) (ps : List Bp) (A H B : Option Addr) (c d e : Nat) (n v : Bytes) (x t : Nat) (w : World) (hl : l.length ≤ maxLen) (hlf : ∀ x ∈ l, AkFits x) (hh : hs.length ≤ maxLen) (hp : ps.length ≤ maxLen) (hpb : ∀ p ∈ ps, p.2.2.length ≤ maxLen ∧ ∀ x ∈ p.2.2, x.1.length ≤ maxLen ∧ x.2.length ≤ maxLen) (hn : n.length ≤ maxLen) (hv : v.length ≤ maxLen) (hA : Row w A (qcells l)) (hH : Row w H (hcells hs)) (hB : Books w B ps) (hg : CkGood ⟨most, l, ba, ev, nw, hs, bks ps⟩) (hr : ckAskErr ⟨most, l, ba, ev, nw, hs, bks ps⟩ n v = 0) (due : Int) (hdue : dueOf ⟨most, l, ba, ev, nw, hs, bks ps⟩ = due) : Calls Tryz.prog 5 #[.agg #[.int .i64 most, .slice A l.length c, .int .i64 ba, .int .i64 ev, .int .i64 nw, .slice H hs.length d, .slice B ps.length e], .agg #[.string (S n), .string (S v), .int .u64 (x : Int), .int .u64 (t : Int)]] w (AskedGives most ba ev nw (l ++ [(n, v, x, t)]) hs (bks ps) due w) := by
  obtain ⟨kf, kc, km, kn⟩ := ckAskErr_ok hr
  dsimp only at km
  have hq : QGood most l := hg.queue
  have hl30 : l.length ≤ 30 := by have := hq.len; have := hq.m30; omega
  have hc40 : hs.length ≤ 40 := hg.chain.len
  have hc0 : 0 < hs.length := hg.chain.pos
  have hph : ps.length = hs.length := by
    have := hg.form
    unfold formBad at this
    dsimp only at this
    rw [bks_length] at this
    omega
  have hbk24 : ∀ p ∈ ps, p.2.2.length ≤ 1000 := fun p hp => by
    obtain ⟨i, hi, rfl⟩ := List.getElem_of_mem hp
    have := (hg.each i (by show i < (bks ps).length; rw [bks_length]; exact hi) (by show i < hs.length; omega)).1
    have e : (bks ps)[i]'(by rw [bks_length]; exact hi) = ps[i].2.2 := bks_get ps i hi
    have h24 := this.len
    have : ps[i].2.2.length ≤ 24 := e ▸ h24
    omega
  have hlm : (l.length : Int) < most := by have := hq.len; omega
  have hb0 : Below w.heap.size w (((w.alloc (.cells #[.int .i64 most, .slice A l.length c, .int .i64 ba, .int .i64 ev, .int .i64 nw, .slice H hs.length d, .slice B ps.length e] 28)).alloc (.cells #[.string (S n), .string (S v), .int .u64 (x : Int), .int .u64 (t : Int)] 31)).alloc (.cells #[.int .i64 0, .slice none 0 0, .int .i64 0, .int .i64 0, .int .i64 0, .slice none 0 0, .slice none 0 0] 28)) := balloc (balloc (balloc (Below.refl _ _) _) _) _
  have hs0 : (((w.alloc (.cells #[.int .i64 most, .slice A l.length c, .int .i64 ba, .int .i64 ev, .int .i64 nw, .slice H hs.length d, .slice B ps.length e] 28)).alloc (.cells #[.string (S n), .string (S v), .int .u64 (x : Int), .int .u64 (t : Int)] 31)).alloc (.cells #[.int .i64 0, .slice none 0 0, .int .i64 0, .int .i64 0, .int .i64 0, .slice none 0 0, .slice none 0 0] 28)).heap.size = w.heap.size + 3 := by simp
  have x0 := ((Bx.new w _ rfl _ [.int .i64 most, .slice A l.length c, .int .i64 ba, .int .i64 ev, .int .i64 nw, .slice H hs.length d, .slice B ps.length e] 28 rfl).alloc (.cells #[.string (S n), .string (S v), .int .u64 (x : Int), .int .u64 (t : Int)] 31)).alloc (.cells #[.int .i64 0, .slice none 0 0, .int .i64 0, .int .i64 0, .int .i64 0, .slice none 0 0, .slice none 0 0] 28)
  have y0 := (Bx.new (w.alloc (.cells #[.int .i64 most, .slice A l.length c, .int .i64 ba, .int .i64 ev, .int .i64 nw, .slice H hs.length d, .slice B ps.length e] 28)) (w.heap.size + 1) (by simp) _ [.string (S n), .string (S v), .int .u64 (x : Int), .int .u64 (t : Int)] 31 rfl).alloc (.cells #[.int .i64 0, .slice none 0 0, .int .i64 0, .int .i64 0, .int .i64 0, .slice none 0 0, .slice none 0 0] 28)
  have z0 := Bx.new ((w.alloc (.cells #[.int .i64 most, .slice A l.length c, .int .i64 ba, .int .i64 ev, .int .i64 nw, .slice H hs.length d, .slice B ps.length e] 28)).alloc (.cells #[.string (S n), .string (S v), .int .u64 (x : Int), .int .u64 (t : Int)] 31)) (w.heap.size + 2) (by simp) _ [.int .i64 0, .slice none 0 0, .int .i64 0, .int .i64 0, .int .i64 0, .slice none 0 0, .slice none 0 0] 28 rfl
  have hA0 := hA.below hb0
  have hH0 := hH.below hb0
  have hB0 := hB.below hb0
  obtain ⟨a0, a1, a2, a3, a4, a5, a6⟩ := x0.get7
  have hCk := fun (w : World) h1 h2 h3 => Lib.hid (clerkCheck most ba ev nw l hs ps A H B c d e w hl hlf hh hp hpb h1 h2 h3 0 ((ckfault_ok _).2 hg))
  have hAd := fun (w : World) h1 h2 => Lib.hid (clerkAdmit_ok most ba ev nw l hs ps A H B c d e n v x t w hg hlf hn hv h1 h2 kf hlm kc (decide_eq_false (by omega)))
  have hCo := fun (w : World) h1 h2 h3 => Lib.hid (clerkCopied most ba ev nw l hs ps A H B c d e w (by omega) hc0 (by omega) (by omega) (by omega) hbk24 h1 h2 h3)
  have hrg := hg.range
  unfold rangeBad at hrg
  dsimp only at hrg
  obtain ⟨N, rfl⟩ : ∃ N : Nat, nw = (N : Int) := ⟨nw.toNat, by omega⟩
  obtain ⟨v0, rfl⟩ : ∃ v0 : Nat, ev = (v0 : Int) := ⟨ev.toNat, by omega⟩
  obtain ⟨b, rfl⟩ : ∃ b : Nat, ba = (b : Int) := ⟨ba.toNat, by omega⟩
  have hN : N ≤ 1000000000 := by omega
  have hv1 : 1 ≤ v0 := by omega
  have hv2 : v0 ≤ 1000 := by omega
  have hb1' : 1 ≤ b := by omega
  have hb2' : b ≤ 30 := by omega
  obtain ⟨wt, hwt⟩ : ∃ wt, (l.length / b + 1) * v0 = wt := ⟨_, rfl⟩
  have hwt2 : wt ≤ 31 * 1000 := by rw [← hwt]; exact Nat.mul_le_mul (by have := Nat.div_le_self l.length b; omega) hv2
  have hWt := fun (w : World) => Lib.hid (queueWait_ok l.length b v0 w (by omega) (by omega) (by omega) (by omega) (by omega) wt hwt)
  have HD : Hid ((N : Int) - (N : Int) % (v0 : Int) + (wt : Int) = due) := by
    show _ = _
    rw [← hdue, dueOf, ← hwt]
    push_cast
    rfl
  obtain ⟨M, hM⟩ : ∃ M, N % v0 = M := ⟨_, rfl⟩
  have hMN : M ≤ N := by rw [← hM]; exact Nat.mod_le _ _
  have hMi : (N : Int) % (v0 : Int) = (M : Int) := by rw [← hM]; push_cast; rfl
  have HD2 : Hid ((N : Int) - (M : Int) + (wt : Int) = due) := by show _ = _; rw [← HD.out, hMi]
  have w0 : IntKind.i64.wrap ((M : Int)) = (M : Int) := by rw [IntKind.wrap_i64]; omega
  have w1' : IntKind.i64.wrap ((N : Int) - (M : Int)) = (N : Int) - (M : Int) := by rw [IntKind.wrap_i64]; omega
  have w2' : IntKind.i64.wrap ((N : Int) - (M : Int) + (wt : Int)) = (N : Int) - (M : Int) + (wt : Int) := by rw [IntKind.wrap_i64]; omega
  have hvz : ((v0 : Int) == 0) = false := beq_eq_false_iff_ne.2 (by omega)
  have hvn : ¬ v0 = 0 := by omega
  have htm : ((N : Int)).tmod (v0 : Int) = (M : Int) := by rw [Int.tmod_eq_emod_of_nonneg (by omega)]; exact hMi
  obtain ⟨T, hT⟩ : ∃ T, l ++ [((n, v, x, t) : Ak)] = T := ⟨_, rfl⟩
  rw [hT]
  rw [hT] at hAd
  clear hl hlf hh hp hpb hr hg hn hv kf kc km kn hq hph hc0 hc40 hdue hrg hbk24 hlm hwt HD hM hT
  go_enter Tryz.func5, Tryz.ntmps5
  go_wp2_with fail
  refine (hCk _ hA0 hH0 hB0).out.mono ?_
  rintro xx w1 ⟨rfl, hb1⟩
  have x1 := x0.below hb1
  have y1 := y0.below hb1
  have z1 := z0.below hb1
  have hb01 := below_chain hb0 hb1
  have hs1 := hb1.size
  have hz1 := z1.lt
  clear a0 a1 a2 a3 a4 a5 a6 x0 y0 z0 hA0 hH0 hB0 hCk
  have hA1 := hA.below hb01
  have hB1 := hB.below hb01
  obtain ⟨a0, a1, a2, a3, a4, a5, a6⟩ := x1.get7
  obtain ⟨⟨y10, y11, y12, y13⟩, _⟩ := y1.get4
  go_wp2_with fail
  refine (hAd _ hA1 hB1).out.mono ?_
  rintro xx w2 ⟨D1, d1, rfl, hown2, hb2⟩
  have hb12 := balloc hb2 (.cells #[.int .i64 most, .slice D1 T.length d1] 24)
  have x3 := x1.below hb12
  have z3 := z1.below hb12
  have q3 := Bx.new w2 w2.heap.size rfl _ [.int .i64 most, .slice D1 T.length d1] 24 rfl
  have hb03 := below_chain hb01 hb12
  have hown3 := own_belowN hown2 (balloc (Below.refl _ _) (.cells #[.int .i64 most, .slice D1 T.length d1] 24))
  have hs2 := hb2.size
  have hs23 : w2.heap.size < (w2.alloc (.cells #[.int .i64 most, .slice D1 T.length d1] 24)).heap.size := by simp
  clear a0 a1 a2 a3 a4 a5 a6 y10 y11 y12 y13 x1 y1 z1 hb01 hb1 hb0 hA1 hB1 hown2 hb2 hb12 hAd
  obtain ⟨a0, a1, a2, a3, a4, a5, a6⟩ := x3.get7
  go_wp2_with fail
  generalize (w2.alloc (.cells #[.int .i64 most, .slice D1 T.length d1] 24)) = w3 at *
  refine (hWt _).out.mono ?_
  rintro xx w3' ⟨rfl, hw⟩
  have hw := hw.symm
  subst hw
  have hA3 := hA.below hb03
  have hH3 := hH.below hb03
  have hB3 := hB.below hb03
  clear hWt
  go_wp2_with fail
  refine (hCo _ hA3 hH3 hB3).out.mono ?_
  rintro xx w4 ⟨Dq, dq, E, f, F, m1, qs, rfl, hqs, hO, hb4⟩
  have hs4 := hb4.size
  have hb46 := balloc hb4 (.cells #[.int .i64 most, .slice D1 T.length d1, .int .i64 (b : Int), .int .i64 (v0 : Int), .int .i64 (N : Int), .slice E hs.length f, .slice F qs.length m1] 28)
  have hb45 := balloc hb4 (.cells #[.int .i64 most, .slice Dq l.length dq, .int .i64 (b : Int), .int .i64 (v0 : Int), .int .i64 (N : Int), .slice E hs.length f, .slice F qs.length m1] 28)
  have x6 := x3.below hb46
  have z6 := z3.below hb46
  have q5 := q3.below hb45
  have o6 := Bx.new w4 w4.heap.size rfl _ [.int .i64 most, .slice D1 T.length d1, .int .i64 (b : Int), .int .i64 (v0 : Int), .int .i64 (N : Int), .slice E hs.length f, .slice F qs.length m1] 28 rfl
  have hO6 := hO.below (balloc (Below.refl _ _) (.cells #[.int .i64 most, .slice D1 T.length d1, .int .i64 (b : Int), .int .i64 (v0 : Int), .int .i64 (N : Int), .slice E hs.length f, .slice F qs.length m1] 28))
  have hown6 := own_belowN hown3 hb46
  have hb06 := below_chain hb03 hb46
  have hsz6 := z6.lt
  have k6 : OwnCk (w4.alloc (.cells #[.int .i64 most, .slice D1 T.length d1, .int .i64 (b : Int), .int .i64 (v0 : Int), .int .i64 (N : Int), .slice E hs.length f, .slice F qs.length m1] 28)) (w.heap.size + 3) T hs D1 E F d1 f m1 qs := ⟨own_baseQ hown6 (by omega), own_baseQ hO6.hd (by omega), own_baseQ hO6.bk (by omega), fun q hq => own_baseQ (hO6.each q hq) (by omega)⟩
  obtain ⟨⟨qq0, qq1⟩, _⟩ := q5.get2
  clear a0 a1 a2 a3 a4 a5 a6 x3 z3 q3 hb03 hA3 hH3 hB3 hCo hO hown3 hb4 hb45 hb46 hA hH hB hO6 hown6 q5
  go_wp2
  generalize (w4.alloc (.cells #[.int .i64 most, .slice D1 T.length d1, .int .i64 (b : Int), .int .i64 (v0 : Int), .int .i64 (N : Int), .slice E hs.length f, .slice F qs.length m1] 28)) = w6 at *
  obtain ⟨p, hp⟩ : ∃ p, w4.heap.size = p := ⟨_, rfl⟩
  rw [hp] at o6
  have hpz : w.heap.size + 3 ≤ p := by omega
  clear qq0 qq1
  obtain ⟨p0, p1, p2', p3, p4, p5, p6⟩ := o6.get7
  obtain ⟨a0, a1, a2, a3, a4, a5, a6⟩ := x6.get7
  obtain ⟨b0, b1, b2, b3, b4, b5, b6⟩ := z6.get7
  have g0 := z6.f 0 (by simp)
  have g1 := z6.f 1 (by simp)
  have g2 := z6.f 2 (by simp)
  have g3 := z6.f 3 (by simp)
  have g4 := z6.f 4 (by simp)
  have g5 := z6.f 5 (by simp)
  have g6 := z6.f 6 (by simp)
  refine wp_region_held_drew (S := fun W => W.cell? ⟨p, 0, none⟩ = some (.int .i64 most) ∧ W.cell? ⟨p, 1, none⟩ = some (.slice D1 T.length d1) ∧ W.cell? ⟨p, 2, none⟩ = some (.int .i64 (b : Int)) ∧ W.cell? ⟨p, 3, none⟩ = some (.int .i64 (v0 : Int)) ∧ W.cell? ⟨p, 4, none⟩ = some (.int .i64 (N : Int)) ∧ W.cell? ⟨p, 5, none⟩ = some (.slice E hs.length f) ∧ W.cell? ⟨p, 6, none⟩ = some (.slice F qs.length m1) ∧ W.cell? ⟨w.heap.size, 3, none⟩ = some (.int .i64 (v0 : Int)) ∧ W.cell? ⟨w.heap.size, 4, none⟩ = some (.int .i64 (N : Int))) (by kernel_rfl) ⟨p0, p1, p2', p3, p4, p5, p6, a3, a4⟩ (fun hHeld => ?_)
  refine wpAnyH_take (i := 0) (v := ?_) rfl (by kernel_rfl) (by kernel_rfl) (by kernel_rfl) (fun _ _ _ h => h) (Or.inl ⟨by rfl, ?_⟩) (by assumption) ?_
  rotate_left
  · intro wt hSt
    try dsimp only at hSt
    first | (go_simp; done) | (go_simp; with_reducible rfl)
  simp only [Act.put, List.setIfInBounds_toArray, List.set_cons_zero, List.set_cons_succ, List.getElem_toArray, List.getElem_cons_zero]
  refine wpAnyH_take (i := 1) (v := ?_) rfl (by kernel_rfl) (by kernel_rfl) (by kernel_rfl) (fun _ _ _ h => h) (Or.inl ⟨by rfl, ?_⟩) (by assumption) ?_
  rotate_left
  · intro wt hSt
    try dsimp only at hSt
    first | (go_simp; done) | (go_simp; with_reducible rfl)
  simp only [Act.put, List.setIfInBounds_toArray, List.set_cons_zero, List.set_cons_succ, List.getElem_toArray, List.getElem_cons_zero, List.getElem_cons_succ]
  refine wpAnyH_take (i := 2) (v := ?_) rfl (by kernel_rfl) (by kernel_rfl) (by kernel_rfl) (fun _ _ _ h => h) (Or.inl ⟨by rfl, ?_⟩) (by assumption) ?_
  rotate_left
  · intro wt hSt
    try dsimp only at hSt
    first | (go_simp; done) | (go_simp; with_reducible rfl)
  simp only [Act.put, List.setIfInBounds_toArray, List.set_cons_zero, List.set_cons_succ, List.getElem_toArray, List.getElem_cons_zero, List.getElem_cons_succ]
  refine wpAnyH_take (i := 3) (v := ?_) rfl (by kernel_rfl) (by kernel_rfl) (by kernel_rfl) (fun _ _ _ h => h) (Or.inl ⟨by rfl, ?_⟩) (by assumption) ?_
  rotate_left
  · intro wt hSt
    try dsimp only at hSt
    first | (go_simp; done) | (go_simp; with_reducible rfl)
  simp only [Act.put, List.setIfInBounds_toArray, List.set_cons_zero, List.set_cons_succ, List.getElem_toArray, List.getElem_cons_zero, List.getElem_cons_succ]
  refine wpAnyH_take (i := 4) (v := ?_) rfl (by kernel_rfl) (by kernel_rfl) (by kernel_rfl) (fun _ _ _ h => h) (Or.inl ⟨by rfl, ?_⟩) (by assumption) ?_
  rotate_left
  · intro wt hSt
    try dsimp only at hSt
    first | (go_simp; done) | (go_simp; with_reducible rfl)
  simp only [Act.put, List.setIfInBounds_toArray, List.set_cons_zero, List.set_cons_succ, List.getElem_toArray, List.getElem_cons_zero, List.getElem_cons_succ]
  refine wpAnyH_take (i := 5) (v := ?_) rfl (by kernel_rfl) (by kernel_rfl) (by kernel_rfl) (fun _ _ _ h => h) (Or.inl ⟨by rfl, ?_⟩) (by assumption) ?_
  rotate_left
  · intro wt hSt
    try dsimp only at hSt
    first | (go_simp; done) | (go_simp; with_reducible rfl)
  simp only [Act.put, List.setIfInBounds_toArray, List.set_cons_zero, List.set_cons_succ, List.getElem_toArray, List.getElem_cons_zero, List.getElem_cons_succ]
  refine wpAnyH_take (i := 6) (v := ?_) rfl (by kernel_rfl) (by kernel_rfl) (by kernel_rfl) (fun _ _ _ h => h) (Or.inl ⟨by rfl, ?_⟩) (by assumption) ?_
  rotate_left
  · intro wt hSt
    try dsimp only at hSt
    first | (go_simp; done) | (go_simp; with_reducible rfl)
  simp only [Act.put, List.setIfInBounds_toArray, List.set_cons_zero, List.set_cons_succ, List.getElem_toArray, List.getElem_cons_zero, List.getElem_cons_succ]
  refine wpAnyH_take (i := 7) (v := ?_) rfl (by kernel_rfl) (by kernel_rfl) (by kernel_rfl) (fun _ _ _ h => h) (Or.inl ⟨by rfl, ?_⟩) (by assumption) ?_
  rotate_left
  · intro wt hSt
    try dsimp only at hSt
    first | (go_simp; done) | (go_simp; with_reducible rfl)
  simp only [Act.put, List.setIfInBounds_toArray, List.set_cons_zero, List.set_cons_succ, List.getElem_toArray, List.getElem_cons_zero, List.getElem_cons_succ]
  refine wpAnyH_take (i := 8) (v := ?_) rfl (by kernel_rfl) (by kernel_rfl) (by kernel_rfl) (fun _ _ _ h => h) (Or.inl ⟨by rfl, ?_⟩) (by assumption) ?_
  rotate_left
  · intro wt hSt
    try dsimp only at hSt
    first | (go_simp; done) | (go_simp; with_reducible rfl)
  simp only [Act.put, List.setIfInBounds_toArray, List.set_cons_zero, List.set_cons_succ, List.getElem_toArray, List.getElem_cons_zero, List.getElem_cons_succ]
  refine wpAnyH_take (i := 9) (v := ?_) rfl (by kernel_rfl) (by kernel_rfl) (by kernel_rfl) (fun _ _ _ h => h) (Or.inl ⟨by rfl, ?_⟩) (by assumption) ?_
  rotate_left
  · intro wt hSt
    try dsimp only at hSt
    first | (go_simp; done) | (go_simp; with_reducible rfl)
  simp only [Act.put, List.setIfInBounds_toArray, List.set_cons_zero, List.set_cons_succ, List.getElem_toArray, List.getElem_cons_zero, List.getElem_cons_succ]
  refine wpAnyH_take (i := 10) (v := ?_) rfl (by kernel_rfl) (by kernel_rfl) (by kernel_rfl) (fun _ _ _ h => h) (Or.inl ⟨by rfl, ?_⟩) (by assumption) ?_
  rotate_left
  · intro wt hSt
    try dsimp only at hSt
    first | (go_simp; done) | (go_simp; with_reducible rfl)
  simp only [Act.put, List.setIfInBounds_toArray, List.set_cons_zero, List.set_cons_succ, List.getElem_toArray, List.getElem_cons_zero, List.getElem_cons_succ]
  refine wpAnyH_ready (rs := [11]) (by kernel_rfl) (by simp) ?_
  refine AllReadyH.cons rfl (fun K hK => ?_) AllReadyH.nil
  go_simp
  have o8 := ((((((((o6.far (h := w.heap.size + 2) (by omega) 0 (.int .i64 most)).far (h := w.heap.size + 2) (by omega) 1 (.slice D1 T.length d1)).far (h := w.heap.size + 2) (by omega) 2 (.int .i64 (b : Int))).far (h := w.heap.size + 2) (by omega) 3 (.int .i64 (v0 : Int))).far (h := w.heap.size + 2) (by omega) 4 (.int .i64 (N : Int))).far (h := w.heap.size + 2) (by omega) 5 (.slice E hs.length f)).far (h := w.heap.size + 2) (by omega) 6 (.slice F qs.length m1))).drewN 1
  have x8 := ((((((((x6.far (h := w.heap.size + 2) (by omega) 0 (.int .i64 most)).far (h := w.heap.size + 2) (by omega) 1 (.slice D1 T.length d1)).far (h := w.heap.size + 2) (by omega) 2 (.int .i64 (b : Int))).far (h := w.heap.size + 2) (by omega) 3 (.int .i64 (v0 : Int))).far (h := w.heap.size + 2) (by omega) 4 (.int .i64 (N : Int))).far (h := w.heap.size + 2) (by omega) 5 (.slice E hs.length f)).far (h := w.heap.size + 2) (by omega) 6 (.slice F qs.length m1))).drewN 1
  obtain ⟨s0, s1, s2, s3, s4, s5, s6⟩ := o8.get7
  obtain ⟨t0, t1, t2, t3, t4, t5, t6⟩ := x8.get7
  refine hK.out _ _ ⟨s0, s1, s2, s3, s4, s5, s6, t3, t4⟩ (fun hHeld => ?_)
  clear hK K
  refine wpAnyH_take (i := 12) (v := ?_) rfl (by kernel_rfl) (by kernel_rfl) (by kernel_rfl) (fun _ _ _ h => h) (Or.inl ⟨by rfl, ?_⟩) (by assumption) ?_
  rotate_left
  · intro wt hSt
    try dsimp only at hSt
    first | (go_simp; done) | (go_simp; with_reducible rfl)
  simp only [Act.put, List.setIfInBounds_toArray, List.set_cons_zero, List.set_cons_succ, List.getElem_toArray, List.getElem_cons_zero, List.getElem_cons_succ]
  refine wpAnyH_take (i := 13) (v := ?_) rfl (by kernel_rfl) (by kernel_rfl) (by kernel_rfl) (fun _ _ _ h => h) (Or.inl ⟨by rfl, ?_⟩) (by assumption) ?_
  rotate_left
  · intro wt hSt
    try dsimp only at hSt
    first | (go_simp; done) | (go_simp; with_reducible rfl)
  simp only [Act.put, List.setIfInBounds_toArray, List.set_cons_zero, List.set_cons_succ, List.getElem_toArray, List.getElem_cons_zero, List.getElem_cons_succ]
  refine wpAnyH_done (by kernel_rfl) ?_ _
  have z9 : Bx ((((((((w6.setCell ⟨w.heap.size + 2, 0, none⟩ (.int .i64 most)).setCell ⟨w.heap.size + 2, 1, none⟩ (.slice D1 T.length d1)).setCell ⟨w.heap.size + 2, 2, none⟩ (.int .i64 (b : Int))).setCell ⟨w.heap.size + 2, 3, none⟩ (.int .i64 (v0 : Int))).setCell ⟨w.heap.size + 2, 4, none⟩ (.int .i64 (N : Int))).setCell ⟨w.heap.size + 2, 5, none⟩ (.slice E hs.length f)).setCell ⟨w.heap.size + 2, 6, none⟩ (.slice F qs.length m1))).drew (w.heap.size + 2) [.int .i64 most, .slice D1 T.length d1, .int .i64 (b : Int), .int .i64 (v0 : Int), .int .i64 (N : Int), .slice E hs.length f, .slice F qs.length m1] := ((((((((z6.set 0 (.int .i64 most)).set 1 (.slice D1 T.length d1)).set 2 (.int .i64 (b : Int))).set 3 (.int .i64 (v0 : Int))).set 4 (.int .i64 (N : Int))).set 5 (.slice E hs.length f)).set 6 (.slice F qs.length m1))).drewN 1
  have hb9 := Lib.hid (bdrew ((((((((hb06.setCell (p := ⟨w.heap.size + 2, 0, none⟩) (by omega : w.heap.size ≤ w.heap.size + 2) (.int .i64 most)).setCell (p := ⟨w.heap.size + 2, 1, none⟩) (by omega : w.heap.size ≤ w.heap.size + 2) (.slice D1 T.length d1)).setCell (p := ⟨w.heap.size + 2, 2, none⟩) (by omega : w.heap.size ≤ w.heap.size + 2) (.int .i64 (b : Int))).setCell (p := ⟨w.heap.size + 2, 3, none⟩) (by omega : w.heap.size ≤ w.heap.size + 2) (.int .i64 (v0 : Int))).setCell (p := ⟨w.heap.size + 2, 4, none⟩) (by omega : w.heap.size ≤ w.heap.size + 2) (.int .i64 (N : Int))).setCell (p := ⟨w.heap.size + 2, 5, none⟩) (by omega : w.heap.size ≤ w.heap.size + 2) (.slice E hs.length f)).setCell (p := ⟨w.heap.size + 2, 6, none⟩) (by omega : w.heap.size ≤ w.heap.size + 2) (.slice F qs.length m1))))
  have k9 := Lib.hid ((((((((((k6.set (g := w.heap.size + 2) (by omega) 0 (.int .i64 most)).set (g := w.heap.size + 2) (by omega) 1 (.slice D1 T.length d1)).set (g := w.heap.size + 2) (by omega) 2 (.int .i64 (b : Int))).set (g := w.heap.size + 2) (by omega) 3 (.int .i64 (v0 : Int))).set (g := w.heap.size + 2) (by omega) 4 (.int .i64 (N : Int))).set (g := w.heap.size + 2) (by omega) 5 (.slice E hs.length f)).set (g := w.heap.size + 2) (by omega) 6 (.slice F qs.length m1))).below (bdrew (Below.refl _ _))).mono (by omega : w.heap.size ≤ w.heap.size + 3))
  go_wp2
  generalize ((((((((w6.setCell ⟨w.heap.size + 2, 0, none⟩ (.int .i64 most)).setCell ⟨w.heap.size + 2, 1, none⟩ (.slice D1 T.length d1)).setCell ⟨w.heap.size + 2, 2, none⟩ (.int .i64 (b : Int))).setCell ⟨w.heap.size + 2, 3, none⟩ (.int .i64 (v0 : Int))).setCell ⟨w.heap.size + 2, 4, none⟩ (.int .i64 (N : Int))).setCell ⟨w.heap.size + 2, 5, none⟩ (.slice E hs.length f)).setCell ⟨w.heap.size + 2, 6, none⟩ (.slice F qs.length m1))).drew = w9 at *
  obtain ⟨r0, r1, r2, r3, r4, r5, r6⟩ := z9.get7
  refine bodyPost_ret (v := .tuple #[.agg #[.int .i64 most, .slice D1 T.length d1, .int .i64 (b : Int), .int .i64 (v0 : Int), .int .i64 (N : Int), .slice E hs.length f, .slice F qs.length m1], .int .i64 ((N : Int) - (M : Int) + (wt : Int)), .int .i64 0]) ?_ rfl ⟨D1, d1, E, f, F, m1, qs, by rw [HD2.out], hqs, k9.out, hb9.out⟩
  rw [results_cell_tmp2 rfl]
  go_simp
end Go.Proofs.YtjcockcilkiggaaGreat
