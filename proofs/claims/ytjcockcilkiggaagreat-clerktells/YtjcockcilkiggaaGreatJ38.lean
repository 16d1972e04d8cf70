/- Package clerk: Tick at a clerk, whatever it is. It writes nothing that was there. -/
import Derived.Test.YtjcockcilkiggaaGreatJ29
import Derived.Test.YtjcockcilkiggaaGreatJ37
namespace Go.Proofs.YtjcockcilkiggaaGreat
set_option maxRecDepth 100000
open Go.RowKit

/-- A clerk in a block just made, as a row of one element. -/
theorem clerk_row (w : World) (vs : List Value) (h : vs.length = 7) : (w.alloc (.cells vs.toArray 28)).ownsRow w.heap.size 28 7 (.slice (some ⟨w.heap.size, 0, none⟩) 1 1) 1 vs :=
  ⟨h, .inr ⟨w.heap.size, 1, _, rfl, Nat.le_refl _, heap_alloc_new w _, Nat.le_refl _, by unfold maxLen; omega, by simp [h], by show List.take 7 vs = vs; exact List.take_of_length_le (by omega)⟩⟩
/-- No clerk, no book, and an error. -/
def TickNo (r : Int) (w : World) (x : Ending) (w' : World) : Prop := x = .returned (.tuple #[.agg #[.int .i64 0, .slice none 0 0, .int .i64 0, .int .i64 0, .int .i64 0, .slice none 0 0, .slice none 0 0], .bool false, .int .i64 r]) ∧ Below w.heap.size w w'
/-- A clerk in rows of the call's own, and whether a book was added. -/
def TkGives (k : Ck) (b : Bool) (w : World) (x : Ending) (w' : World) : Prop :=
  ∃ D d E f F h qs, x = .returned (.tuple #[.agg #[.int .i64 k.most, .slice D k.wait.length d, .int .i64 k.batch, .int .i64 k.every, .int .i64 k.now, .slice E k.heads.length f, .slice F qs.length h], .bool b, .int .i64 0]) ∧ bks qs = k.books ∧ OwnCk w' w.heap.size k.wait k.heads D E F d f h qs ∧ Below w.heap.size w w'
set_option maxHeartbeats 4000000 in
theorem clerkTick_fault (most ba ev nw : Int) (l : List Ak) (hs : List Hd) (ps : List Bp) (A H B : Option Addr) (c d e : Nat) (w : World) (hl : l.length ≤ maxLen) (hlf : ∀ x ∈ l, AkFits x) (hh : hs.length ≤ maxLen) (hp : ps.length ≤ maxLen) (hpb : ∀ p ∈ ps, p.2.2.length ≤ maxLen ∧ ∀ x ∈ p.2.2, x.1.length ≤ maxLen ∧ x.2.length ≤ maxLen) (hA : Row w A (qcells l)) (hH : Row w H (hcells hs)) (hB : Books w B ps) (r : Int) (hr : ckfault ⟨most, l, ba, ev, nw, hs, bks ps⟩ = r) (h0 : r ≠ 0) : Calls Tryz.prog 6 #[.agg #[.int .i64 most, .slice A l.length c, .int .i64 ba, .int .i64 ev, .int .i64 nw, .slice H hs.length d, .slice B ps.length e]] w (TickNo r w) := by
  have hb0 : Below w.heap.size w ((w.alloc (.cells #[.int .i64 most, .slice A l.length c, .int .i64 ba, .int .i64 ev, .int .i64 nw, .slice H hs.length d, .slice B ps.length e] 28)).alloc (.cells #[.int .i64 0, .slice none 0 0, .int .i64 0, .int .i64 0, .int .i64 0, .slice none 0 0, .slice none 0 0] 28)) := balloc (balloc (Below.refl _ _) _) _
  have hs0 : ((w.alloc (.cells #[.int .i64 most, .slice A l.length c, .int .i64 ba, .int .i64 ev, .int .i64 nw, .slice H hs.length d, .slice B ps.length e] 28)).alloc (.cells #[.int .i64 0, .slice none 0 0, .int .i64 0, .int .i64 0, .int .i64 0, .slice none 0 0, .slice none 0 0] 28)).heap.size = w.heap.size + 2 := by simp
  have x0 := (Bx.new w _ rfl _ [.int .i64 most, .slice A l.length c, .int .i64 ba, .int .i64 ev, .int .i64 nw, .slice H hs.length d, .slice B ps.length e] 28 rfl).alloc (.cells #[.int .i64 0, .slice none 0 0, .int .i64 0, .int .i64 0, .int .i64 0, .slice none 0 0, .slice none 0 0] 28)
  have z0 := Bx.new (w.alloc (.cells #[.int .i64 most, .slice A l.length c, .int .i64 ba, .int .i64 ev, .int .i64 nw, .slice H hs.length d, .slice B ps.length e] 28)) (w.heap.size + 1) (by simp) _ [.int .i64 0, .slice none 0 0, .int .i64 0, .int .i64 0, .int .i64 0, .slice none 0 0, .slice none 0 0] 28 rfl
  have hA0 := hA.below hb0
  have hH0 := hH.below hb0
  have hB0 := hB.below hb0
  obtain ⟨a0, a1, a2, a3, a4, a5, a6⟩ := x0.get7
  have hCk := fun (w : World) h1 h2 h3 => Lib.hid (clerkCheck most ba ev nw l hs ps A H B c d e w hl hlf hh hp hpb h1 h2 h3 r hr)
  have c0 : (r != 0) = true := bne_iff_ne.2 h0
  clear hl hlf hh hp hpb hA hH hB hr h0
  go_enter Tryz.func6, Tryz.ntmps6
  go_wp2_with fail
  refine (hCk _ hA0 hH0 hB0).out.mono ?_
  rintro xx w1 ⟨rfl, hb1⟩
  have x1 := x0.below hb1
  have z1 := z0.below hb1
  have hb01 := below_chain hb0 hb1
  have hs1 := hb1.size
  have hz1 := z1.lt
  clear a0 a1 a2 a3 a4 a5 a6 x0 z0 hA0 hH0 hB0 hCk
  have z9 : Bx (((((((w1.setCell ⟨w.heap.size + 1, 0, none⟩ (.int .i64 0)).setCell ⟨w.heap.size + 1, 1, none⟩ (.slice none 0 0)).setCell ⟨w.heap.size + 1, 2, none⟩ (.int .i64 0)).setCell ⟨w.heap.size + 1, 3, none⟩ (.int .i64 0)).setCell ⟨w.heap.size + 1, 4, none⟩ (.int .i64 0)).setCell ⟨w.heap.size + 1, 5, none⟩ (.slice none 0 0)).setCell ⟨w.heap.size + 1, 6, none⟩ (.slice none 0 0)) (w.heap.size + 1) [.int .i64 0, .slice none 0 0, .int .i64 0, .int .i64 0, .int .i64 0, .slice none 0 0, .slice none 0 0] := (((((((z1.set 0 (.int .i64 0)).set 1 (.slice none 0 0)).set 2 (.int .i64 0)).set 3 (.int .i64 0)).set 4 (.int .i64 0)).set 5 (.slice none 0 0)).set 6 (.slice none 0 0))
  have hb9 := Lib.hid (((((((hb01.setCell (p := ⟨w.heap.size + 1, 0, none⟩) (by omega : w.heap.size ≤ w.heap.size + 1) (.int .i64 0)).setCell (p := ⟨w.heap.size + 1, 1, none⟩) (by omega : w.heap.size ≤ w.heap.size + 1) (.slice none 0 0)).setCell (p := ⟨w.heap.size + 1, 2, none⟩) (by omega : w.heap.size ≤ w.heap.size + 1) (.int .i64 0)).setCell (p := ⟨w.heap.size + 1, 3, none⟩) (by omega : w.heap.size ≤ w.heap.size + 1) (.int .i64 0)).setCell (p := ⟨w.heap.size + 1, 4, none⟩) (by omega : w.heap.size ≤ w.heap.size + 1) (.int .i64 0)).setCell (p := ⟨w.heap.size + 1, 5, none⟩) (by omega : w.heap.size ≤ w.heap.size + 1) (.slice none 0 0)).setCell (p := ⟨w.heap.size + 1, 6, none⟩) (by omega : w.heap.size ≤ w.heap.size + 1) (.slice none 0 0))
  obtain ⟨b0, b1, b2, b3, b4, b5, b6⟩ := z1.get7
  have g0 := z1.f 0 (by simp)
  have g1 := z1.f 1 (by simp)
  have g2 := z1.f 2 (by simp)
  have g3 := z1.f 3 (by simp)
  have g4 := z1.f 4 (by simp)
  have g5 := z1.f 5 (by simp)
  have g6 := z1.f 6 (by simp)
  clear z1 
  go_wp2
  generalize (((((((w1.setCell ⟨w.heap.size + 1, 0, none⟩ (.int .i64 0)).setCell ⟨w.heap.size + 1, 1, none⟩ (.slice none 0 0)).setCell ⟨w.heap.size + 1, 2, none⟩ (.int .i64 0)).setCell ⟨w.heap.size + 1, 3, none⟩ (.int .i64 0)).setCell ⟨w.heap.size + 1, 4, none⟩ (.int .i64 0)).setCell ⟨w.heap.size + 1, 5, none⟩ (.slice none 0 0)).setCell ⟨w.heap.size + 1, 6, none⟩ (.slice none 0 0)) = w9 at *
  obtain ⟨r0, r1, r2, r3, r4, r5, r6⟩ := z9.get7
  refine bodyPost_ret (v := .tuple #[.agg #[.int .i64 0, .slice none 0 0, .int .i64 0, .int .i64 0, .int .i64 0, .slice none 0 0, .slice none 0 0], .bool false, .int .i64 r]) ?_ rfl ⟨rfl, hb9.out⟩
  rw [results_cell_tmp2 rfl]
  go_simp
set_option maxHeartbeats 4000000 in
theorem clerkTick_closed (most ba ev nw : Int) (l : List Ak) (hs : List Hd) (ps : List Bp) (A H B : Option Addr) (c d e : Nat) (w : World) (hl : l.length ≤ maxLen) (hlf : ∀ x ∈ l, AkFits x) (hh : hs.length ≤ maxLen) (hp : ps.length ≤ maxLen) (hpb : ∀ p ∈ ps, p.2.2.length ≤ maxLen ∧ ∀ x ∈ p.2.2, x.1.length ≤ maxLen ∧ x.2.length ≤ maxLen) (hA : Row w A (qcells l)) (hH : Row w H (hcells hs)) (hB : Books w B ps) (hg : CkGood ⟨most, l, ba, ev, nw, hs, bks ps⟩) (hcl : closedB ⟨most, l, ba, ev, nw, hs, bks ps⟩ = true) : Calls Tryz.prog 6 #[.agg #[.int .i64 most, .slice A l.length c, .int .i64 ba, .int .i64 ev, .int .i64 nw, .slice H hs.length d, .slice B ps.length e]] w (TkGives ⟨most, l, ba, ev, nw, hs, bks ps⟩ false w) := by
  have hq : QGood most l := hg.queue
  have hl30 : l.length ≤ 30 := by have := hq.len; have := hq.m30; omega
  have hc40 : hs.length ≤ 40 := hg.chain.len
  have hc0 : 0 < hs.length := hg.chain.pos
  have hph : ps.length = hs.length := by
    have := hg.form
    unfold formBad at this
    dsimp only at this
    rw [bks_length] at this
    omega
  have hbk24 : ∀ p ∈ ps, p.2.2.length ≤ 1000 := fun p hp => by
    obtain ⟨i, hi, rfl⟩ := List.getElem_of_mem hp
    have := (hg.each i (by show i < (bks ps).length; rw [bks_length]; exact hi) (by show i < hs.length; omega)).1
    have e : (bks ps)[i]'(by rw [bks_length]; exact hi) = ps[i].2.2 := bks_get ps i hi
    have h24 := this.len
    have : ps[i].2.2.length ≤ 24 := e ▸ h24
    omega
  have hb0 : Below w.heap.size w ((w.alloc (.cells #[.int .i64 most, .slice A l.length c, .int .i64 ba, .int .i64 ev, .int .i64 nw, .slice H hs.length d, .slice B ps.length e] 28)).alloc (.cells #[.int .i64 0, .slice none 0 0, .int .i64 0, .int .i64 0, .int .i64 0, .slice none 0 0, .slice none 0 0] 28)) := balloc (balloc (Below.refl _ _) _) _
  have hs0 : ((w.alloc (.cells #[.int .i64 most, .slice A l.length c, .int .i64 ba, .int .i64 ev, .int .i64 nw, .slice H hs.length d, .slice B ps.length e] 28)).alloc (.cells #[.int .i64 0, .slice none 0 0, .int .i64 0, .int .i64 0, .int .i64 0, .slice none 0 0, .slice none 0 0] 28)).heap.size = w.heap.size + 2 := by simp
  have x0 := (Bx.new w _ rfl _ [.int .i64 most, .slice A l.length c, .int .i64 ba, .int .i64 ev, .int .i64 nw, .slice H hs.length d, .slice B ps.length e] 28 rfl).alloc (.cells #[.int .i64 0, .slice none 0 0, .int .i64 0, .int .i64 0, .int .i64 0, .slice none 0 0, .slice none 0 0] 28)
  have z0 := Bx.new (w.alloc (.cells #[.int .i64 most, .slice A l.length c, .int .i64 ba, .int .i64 ev, .int .i64 nw, .slice H hs.length d, .slice B ps.length e] 28)) (w.heap.size + 1) (by simp) _ [.int .i64 0, .slice none 0 0, .int .i64 0, .int .i64 0, .int .i64 0, .slice none 0 0, .slice none 0 0] 28 rfl
  have hA0 := hA.below hb0
  have hH0 := hH.below hb0
  have hB0 := hB.below hb0
  obtain ⟨a0, a1, a2, a3, a4, a5, a6⟩ := x0.get7
  have hCk := fun (w : World) h1 h2 h3 => Lib.hid (clerkCheck most ba ev nw l hs ps A H B c d e w hl hlf hh hp hpb h1 h2 h3 0 ((ckfault_ok _).2 hg))
  have hCo := fun (w : World) h1 h2 h3 => Lib.hid (clerkCopied most ba ev nw l hs ps A H B c d e w (by omega) hc0 (by omega) (by omega) (by omega) hbk24 h1 h2 h3)
  have hCl := fun (w : World) => Lib.hid (clerkClosed most ba ev nw A H B l.length c hs.length d ps.length e w _ hcl)
  clear hl hlf hh hp hpb hg hq hl30 hc40 hc0 hph hbk24 hcl
  go_enter Tryz.func6, Tryz.ntmps6
  go_wp2_with fail
  refine (hCk _ hA0 hH0 hB0).out.mono ?_
  rintro xx w1 ⟨rfl, hb1⟩
  have x1 := x0.below hb1
  have z1 := z0.below hb1
  have hb01 := below_chain hb0 hb1
  have hs1 := hb1.size
  have hz1 := z1.lt
  clear a0 a1 a2 a3 a4 a5 a6 x0 z0 hA0 hH0 hB0 hCk
  have hA1 := hA.below hb01
  have hH1 := hH.below hb01
  have hB1 := hB.below hb01
  obtain ⟨a0, a1, a2, a3, a4, a5, a6⟩ := x1.get7
  go_wp2_with fail
  refine (hCo _ hA1 hH1 hB1).out.mono ?_
  rintro xx w2 ⟨Dq, dq, E, f, F, m1, qs, rfl, hqs, hO, hb2⟩
  have hs2 := hb2.size
  have hb23 := balloc hb2 (.cells #[.int .i64 most, .slice Dq l.length dq, .int .i64 ba, .int .i64 ev, .int .i64 nw, .slice E hs.length f, .slice F qs.length m1] 28)
  have x3 := x1.below hb23
  have z3 := z1.below hb23
  have o3 := Bx.new w2 w2.heap.size rfl _ [.int .i64 most, .slice Dq l.length dq, .int .i64 ba, .int .i64 ev, .int .i64 nw, .slice E hs.length f, .slice F qs.length m1] 28 rfl
  have r3 := clerk_row w2 [.int .i64 most, .slice Dq l.length dq, .int .i64 ba, .int .i64 ev, .int .i64 nw, .slice E hs.length f, .slice F qs.length m1] rfl
  have k3 := (hO.below (balloc (Below.refl _ _) (.cells #[.int .i64 most, .slice Dq l.length dq, .int .i64 ba, .int .i64 ev, .int .i64 nw, .slice E hs.length f, .slice F qs.length m1] 28))).mono (by omega : w.heap.size + 2 ≤ w1.heap.size)
  have hlq := fun k hk => (hO.q.lt k hk).2
  have hlh := fun k hk => (hO.hd.lt k hk).2
  have hlk := fun k hk => (hO.bk.lt k hk).2
  have hle := fun p (hp : p ∈ qs) k hk => ((hO.each p hp).lt k hk).2
  have hb03 := below_chain hb01 hb23
  obtain ⟨p, hp⟩ : ∃ p, w2.heap.size = p := ⟨_, rfl⟩
  rw [hp] at o3 hs2 hlq hlh hlk hle r3
  clear a0 a1 a2 a3 a4 a5 a6 x1 z1 hb01 hA1 hH1 hB1 hCo hO hb2 hb23 hA hH hB
  obtain ⟨a0, a1, a2, a3, a4, a5, a6⟩ := x3.get7
  go_wp2_with fail
  generalize (w2.alloc (.cells #[.int .i64 most, .slice Dq l.length dq, .int .i64 ba, .int .i64 ev, .int .i64 nw, .slice E hs.length f, .slice F qs.length m1] 28)) = w3 at *
  refine (hCl _).out.mono ?_
  rintro xx w4 ⟨rfl, hb4⟩
  have x4 := x3.below hb4
  have z4 := z3.below hb4
  have o4 := o3.below hb4
  have k4 := k3.below hb4
  have r4 := own_belowN r3 hb4
  have hb04 := below_chain hb03 hb4
  try rw [hp]
  have HP := Lib.hid hp
  clear a0 a1 a2 a3 a4 a5 a6 x3 z3 o3 k3 r3 hb03 hCl hp
  have hpz : w.heap.size + 2 ≤ p := by omega
  clear x4 hlq hlh hlk hle
  obtain ⟨p0, p1, p2, p3, p4, p5, p6⟩ := o4.get7
  have z9 : Bx (((((((w4.setCell ⟨w.heap.size + 1, 0, none⟩ (.int .i64 most)).setCell ⟨w.heap.size + 1, 1, none⟩ (.slice Dq l.length dq)).setCell ⟨w.heap.size + 1, 2, none⟩ (.int .i64 ba)).setCell ⟨w.heap.size + 1, 3, none⟩ (.int .i64 ev)).setCell ⟨w.heap.size + 1, 4, none⟩ (.int .i64 nw)).setCell ⟨w.heap.size + 1, 5, none⟩ (.slice E hs.length f)).setCell ⟨w.heap.size + 1, 6, none⟩ (.slice F qs.length m1)) (w.heap.size + 1) [.int .i64 most, .slice Dq l.length dq, .int .i64 ba, .int .i64 ev, .int .i64 nw, .slice E hs.length f, .slice F qs.length m1] := (((((((z4.set 0 (.int .i64 most)).set 1 (.slice Dq l.length dq)).set 2 (.int .i64 ba)).set 3 (.int .i64 ev)).set 4 (.int .i64 nw)).set 5 (.slice E hs.length f)).set 6 (.slice F qs.length m1))
  have hb9 := Lib.hid (((((((hb04.setCell (p := ⟨w.heap.size + 1, 0, none⟩) (by omega : w.heap.size ≤ w.heap.size + 1) (.int .i64 most)).setCell (p := ⟨w.heap.size + 1, 1, none⟩) (by omega : w.heap.size ≤ w.heap.size + 1) (.slice Dq l.length dq)).setCell (p := ⟨w.heap.size + 1, 2, none⟩) (by omega : w.heap.size ≤ w.heap.size + 1) (.int .i64 ba)).setCell (p := ⟨w.heap.size + 1, 3, none⟩) (by omega : w.heap.size ≤ w.heap.size + 1) (.int .i64 ev)).setCell (p := ⟨w.heap.size + 1, 4, none⟩) (by omega : w.heap.size ≤ w.heap.size + 1) (.int .i64 nw)).setCell (p := ⟨w.heap.size + 1, 5, none⟩) (by omega : w.heap.size ≤ w.heap.size + 1) (.slice E hs.length f)).setCell (p := ⟨w.heap.size + 1, 6, none⟩) (by omega : w.heap.size ≤ w.heap.size + 1) (.slice F qs.length m1))
  have k9 := Lib.hid ((((((((k4.set (g := w.heap.size + 1) (by omega) 0 (.int .i64 most)).set (g := w.heap.size + 1) (by omega) 1 (.slice Dq l.length dq)).set (g := w.heap.size + 1) (by omega) 2 (.int .i64 ba)).set (g := w.heap.size + 1) (by omega) 3 (.int .i64 ev)).set (g := w.heap.size + 1) (by omega) 4 (.int .i64 nw)).set (g := w.heap.size + 1) (by omega) 5 (.slice E hs.length f)).set (g := w.heap.size + 1) (by omega) 6 (.slice F qs.length m1)).mono (by omega : w.heap.size ≤ w.heap.size + 2))
  obtain ⟨b0, b1, b2, b3, b4, b5, b6⟩ := z4.get7
  have g0 := z4.f 0 (by simp)
  have g1 := z4.f 1 (by simp)
  have g2 := z4.f 2 (by simp)
  have g3 := z4.f 3 (by simp)
  have g4 := z4.f 4 (by simp)
  have g5 := z4.f 5 (by simp)
  have g6 := z4.f 6 (by simp)
  clear z4 o4 k4 hb04
  go_wp2
  generalize (((((((w4.setCell ⟨w.heap.size + 1, 0, none⟩ (.int .i64 most)).setCell ⟨w.heap.size + 1, 1, none⟩ (.slice Dq l.length dq)).setCell ⟨w.heap.size + 1, 2, none⟩ (.int .i64 ba)).setCell ⟨w.heap.size + 1, 3, none⟩ (.int .i64 ev)).setCell ⟨w.heap.size + 1, 4, none⟩ (.int .i64 nw)).setCell ⟨w.heap.size + 1, 5, none⟩ (.slice E hs.length f)).setCell ⟨w.heap.size + 1, 6, none⟩ (.slice F qs.length m1)) = w9 at *
  obtain ⟨r0, r1, r2, r3, r4, r5, r6⟩ := z9.get7
  refine bodyPost_ret (v := .tuple #[.agg #[.int .i64 most, .slice Dq l.length dq, .int .i64 ba, .int .i64 ev, .int .i64 nw, .slice E hs.length f, .slice F qs.length m1], .bool false, .int .i64 0]) ?_ rfl ⟨Dq, dq, E, f, F, m1, qs, rfl, hqs, k9.out, hb9.out⟩
  rw [results_cell_tmp2 rfl]
  go_simp
set_option maxHeartbeats 4000000 in
theorem clerkTick_none (most ba ev nw : Int) (l : List Ak) (hs : List Hd) (ps : List Bp) (A H B : Option Addr) (c d e : Nat) (w : World) (hl : l.length ≤ maxLen) (hlf : ∀ x ∈ l, AkFits x) (hh : hs.length ≤ maxLen) (hp : ps.length ≤ maxLen) (hpb : ∀ p ∈ ps, p.2.2.length ≤ maxLen ∧ ∀ x ∈ p.2.2, x.1.length ≤ maxLen ∧ x.2.length ≤ maxLen) (hA : Row w A (qcells l)) (hH : Row w H (hcells hs)) (hB : Books w B ps) (hg : CkGood ⟨most, l, ba, ev, nw, hs, bks ps⟩) (hcl : closedB ⟨most, l, ba, ev, nw, hs, bks ps⟩ = false) (hd : (nw + 1) % ev ≠ 0) : Calls Tryz.prog 6 #[.agg #[.int .i64 most, .slice A l.length c, .int .i64 ba, .int .i64 ev, .int .i64 nw, .slice H hs.length d, .slice B ps.length e]] w (TkGives ⟨most, l, ba, ev, nw + 1, hs, bks ps⟩ false w) := by
  have hq : QGood most l := hg.queue
  have hl30 : l.length ≤ 30 := by have := hq.len; have := hq.m30; omega
  have hc40 : hs.length ≤ 40 := hg.chain.len
  have hc0 : 0 < hs.length := hg.chain.pos
  have hph : ps.length = hs.length := by
    have := hg.form
    unfold formBad at this
    dsimp only at this
    rw [bks_length] at this
    omega
  have hbk24 : ∀ p ∈ ps, p.2.2.length ≤ 1000 := fun p hp => by
    obtain ⟨i, hi, rfl⟩ := List.getElem_of_mem hp
    have := (hg.each i (by show i < (bks ps).length; rw [bks_length]; exact hi) (by show i < hs.length; omega)).1
    have e : (bks ps)[i]'(by rw [bks_length]; exact hi) = ps[i].2.2 := bks_get ps i hi
    have h24 := this.len
    have : ps[i].2.2.length ≤ 24 := e ▸ h24
    omega
  have hb0 : Below w.heap.size w ((w.alloc (.cells #[.int .i64 most, .slice A l.length c, .int .i64 ba, .int .i64 ev, .int .i64 nw, .slice H hs.length d, .slice B ps.length e] 28)).alloc (.cells #[.int .i64 0, .slice none 0 0, .int .i64 0, .int .i64 0, .int .i64 0, .slice none 0 0, .slice none 0 0] 28)) := balloc (balloc (Below.refl _ _) _) _
  have hs0 : ((w.alloc (.cells #[.int .i64 most, .slice A l.length c, .int .i64 ba, .int .i64 ev, .int .i64 nw, .slice H hs.length d, .slice B ps.length e] 28)).alloc (.cells #[.int .i64 0, .slice none 0 0, .int .i64 0, .int .i64 0, .int .i64 0, .slice none 0 0, .slice none 0 0] 28)).heap.size = w.heap.size + 2 := by simp
  have x0 := (Bx.new w _ rfl _ [.int .i64 most, .slice A l.length c, .int .i64 ba, .int .i64 ev, .int .i64 nw, .slice H hs.length d, .slice B ps.length e] 28 rfl).alloc (.cells #[.int .i64 0, .slice none 0 0, .int .i64 0, .int .i64 0, .int .i64 0, .slice none 0 0, .slice none 0 0] 28)
  have z0 := Bx.new (w.alloc (.cells #[.int .i64 most, .slice A l.length c, .int .i64 ba, .int .i64 ev, .int .i64 nw, .slice H hs.length d, .slice B ps.length e] 28)) (w.heap.size + 1) (by simp) _ [.int .i64 0, .slice none 0 0, .int .i64 0, .int .i64 0, .int .i64 0, .slice none 0 0, .slice none 0 0] 28 rfl
  have hA0 := hA.below hb0
  have hH0 := hH.below hb0
  have hB0 := hB.below hb0
  obtain ⟨a0, a1, a2, a3, a4, a5, a6⟩ := x0.get7
  have hCk := fun (w : World) h1 h2 h3 => Lib.hid (clerkCheck most ba ev nw l hs ps A H B c d e w hl hlf hh hp hpb h1 h2 h3 0 ((ckfault_ok _).2 hg))
  have hCo := fun (w : World) h1 h2 h3 => Lib.hid (clerkCopied most ba ev nw l hs ps A H B c d e w (by omega) hc0 (by omega) (by omega) (by omega) hbk24 h1 h2 h3)
  have hCl := fun (w : World) => Lib.hid (clerkClosed most ba ev nw A H B l.length c hs.length d ps.length e w _ hcl)
  have hrg := hg.range
  unfold rangeBad at hrg
  dsimp only at hrg
  obtain ⟨N, rfl⟩ : ∃ N : Nat, nw = (N : Int) := ⟨nw.toNat, by omega⟩
  obtain ⟨v0, rfl⟩ : ∃ v0 : Nat, ev = (v0 : Int) := ⟨ev.toNat, by omega⟩
  have hN : N ≤ 1000000000 := by omega
  have hv1 : 1 ≤ v0 := by omega
  have hv2 : v0 ≤ 1000 := by omega
  have hvz : ((v0 : Int) == 0) = false := beq_eq_false_iff_ne.2 (by omega)
  have cm : (((N : Int) + 1) % (v0 : Int) != 0) = true := bne_iff_ne.2 hd
  clear hl hlf hh hp hpb hg hq hl30 hc40 hc0 hph hbk24 hcl hd hrg
  go_enter Tryz.func6, Tryz.ntmps6
  go_wp2_with fail
  refine (hCk _ hA0 hH0 hB0).out.mono ?_
  rintro xx w1 ⟨rfl, hb1⟩
  have x1 := x0.below hb1
  have z1 := z0.below hb1
  have hb01 := below_chain hb0 hb1
  have hs1 := hb1.size
  have hz1 := z1.lt
  clear a0 a1 a2 a3 a4 a5 a6 x0 z0 hA0 hH0 hB0 hCk
  have hA1 := hA.below hb01
  have hH1 := hH.below hb01
  have hB1 := hB.below hb01
  obtain ⟨a0, a1, a2, a3, a4, a5, a6⟩ := x1.get7
  go_wp2_with fail
  refine (hCo _ hA1 hH1 hB1).out.mono ?_
  rintro xx w2 ⟨Dq, dq, E, f, F, m1, qs, rfl, hqs, hO, hb2⟩
  have hs2 := hb2.size
  have hb23 := balloc hb2 (.cells #[.int .i64 most, .slice Dq l.length dq, .int .i64 ba, .int .i64 (v0 : Int), .int .i64 (N : Int), .slice E hs.length f, .slice F qs.length m1] 28)
  have x3 := x1.below hb23
  have z3 := z1.below hb23
  have o3 := Bx.new w2 w2.heap.size rfl _ [.int .i64 most, .slice Dq l.length dq, .int .i64 ba, .int .i64 (v0 : Int), .int .i64 (N : Int), .slice E hs.length f, .slice F qs.length m1] 28 rfl
  have r3 := clerk_row w2 [.int .i64 most, .slice Dq l.length dq, .int .i64 ba, .int .i64 (v0 : Int), .int .i64 (N : Int), .slice E hs.length f, .slice F qs.length m1] rfl
  have k3 := (hO.below (balloc (Below.refl _ _) (.cells #[.int .i64 most, .slice Dq l.length dq, .int .i64 ba, .int .i64 (v0 : Int), .int .i64 (N : Int), .slice E hs.length f, .slice F qs.length m1] 28))).mono (by omega : w.heap.size + 2 ≤ w1.heap.size)
  have hlq := fun k hk => (hO.q.lt k hk).2
  have hlh := fun k hk => (hO.hd.lt k hk).2
  have hlk := fun k hk => (hO.bk.lt k hk).2
  have hle := fun p (hp : p ∈ qs) k hk => ((hO.each p hp).lt k hk).2
  have hb03 := below_chain hb01 hb23
  obtain ⟨p, hp⟩ : ∃ p, w2.heap.size = p := ⟨_, rfl⟩
  rw [hp] at o3 hs2 hlq hlh hlk hle r3
  clear a0 a1 a2 a3 a4 a5 a6 x1 z1 hb01 hA1 hH1 hB1 hCo hO hb2 hb23 hA hH hB
  obtain ⟨a0, a1, a2, a3, a4, a5, a6⟩ := x3.get7
  go_wp2_with fail
  generalize (w2.alloc (.cells #[.int .i64 most, .slice Dq l.length dq, .int .i64 ba, .int .i64 (v0 : Int), .int .i64 (N : Int), .slice E hs.length f, .slice F qs.length m1] 28)) = w3 at *
  refine (hCl _).out.mono ?_
  rintro xx w4 ⟨rfl, hb4⟩
  have x4 := x3.below hb4
  have z4 := z3.below hb4
  have o4 := o3.below hb4
  have k4 := k3.below hb4
  have r4 := own_belowN r3 hb4
  have hb04 := below_chain hb03 hb4
  try rw [hp]
  have HP := Lib.hid hp
  clear a0 a1 a2 a3 a4 a5 a6 x3 z3 o3 k3 r3 hb03 hCl hp
  have hpz : w.heap.size + 2 ≤ p := by omega
  have o5 : Bx (w4.setCell ⟨p, 4, none⟩ (.int .i64 ((N : Int) + 1))) p [.int .i64 most, .slice Dq l.length dq, .int .i64 ba, .int .i64 (v0 : Int), .int .i64 ((N : Int) + 1), .slice E hs.length f, .slice F qs.length m1] := o4.set 4 (.int .i64 ((N : Int) + 1))
  have z5 := z4.far (h := p) (by omega) 4 (.int .i64 ((N : Int) + 1))
  have k5 : OwnCk (w4.setCell ⟨p, 4, none⟩ (.int .i64 ((N : Int) + 1))) (w.heap.size + 2) l hs Dq E F dq f m1 qs :=
    ⟨own_far k4.q (fun k hk => by have := hlq k hk; omega) 4 _, own_far k4.hd (fun k hk => by have := hlh k hk; omega) 4 _, own_far k4.bk (fun k hk => by have := hlk k hk; omega) 4 _, fun q hq => own_far (k4.each q hq) (fun k hk => by have := hle q hq k hk; omega) 4 _⟩
  have hb05 := hb04.setCell (p := ⟨p, 4, none⟩) (by show w.heap.size ≤ p; omega) (.int .i64 ((N : Int) + 1))
  obtain ⟨p0, p1, p2, p3, p4, p5, p6⟩ := o4.get7
  have f4 := o4.f 4 (by simp)
  obtain ⟨q0, q1, q2, q3, q4, q5, q6⟩ := o5.get7
  clear x4 hlq hlh hlk hle o4 o5 z4 k4 hb04
  have z9 : Bx ((((((((w4.setCell ⟨p, 4, none⟩ (.int .i64 ((N : Int) + 1))).setCell ⟨w.heap.size + 1, 0, none⟩ (.int .i64 most)).setCell ⟨w.heap.size + 1, 1, none⟩ (.slice Dq l.length dq)).setCell ⟨w.heap.size + 1, 2, none⟩ (.int .i64 ba)).setCell ⟨w.heap.size + 1, 3, none⟩ (.int .i64 (v0 : Int))).setCell ⟨w.heap.size + 1, 4, none⟩ (.int .i64 ((N : Int) + 1))).setCell ⟨w.heap.size + 1, 5, none⟩ (.slice E hs.length f)).setCell ⟨w.heap.size + 1, 6, none⟩ (.slice F qs.length m1)) (w.heap.size + 1) [.int .i64 most, .slice Dq l.length dq, .int .i64 ba, .int .i64 (v0 : Int), .int .i64 ((N : Int) + 1), .slice E hs.length f, .slice F qs.length m1] := (((((((z5.set 0 (.int .i64 most)).set 1 (.slice Dq l.length dq)).set 2 (.int .i64 ba)).set 3 (.int .i64 (v0 : Int))).set 4 (.int .i64 ((N : Int) + 1))).set 5 (.slice E hs.length f)).set 6 (.slice F qs.length m1))
  have hb9 := Lib.hid (((((((hb05.setCell (p := ⟨w.heap.size + 1, 0, none⟩) (by omega : w.heap.size ≤ w.heap.size + 1) (.int .i64 most)).setCell (p := ⟨w.heap.size + 1, 1, none⟩) (by omega : w.heap.size ≤ w.heap.size + 1) (.slice Dq l.length dq)).setCell (p := ⟨w.heap.size + 1, 2, none⟩) (by omega : w.heap.size ≤ w.heap.size + 1) (.int .i64 ba)).setCell (p := ⟨w.heap.size + 1, 3, none⟩) (by omega : w.heap.size ≤ w.heap.size + 1) (.int .i64 (v0 : Int))).setCell (p := ⟨w.heap.size + 1, 4, none⟩) (by omega : w.heap.size ≤ w.heap.size + 1) (.int .i64 ((N : Int) + 1))).setCell (p := ⟨w.heap.size + 1, 5, none⟩) (by omega : w.heap.size ≤ w.heap.size + 1) (.slice E hs.length f)).setCell (p := ⟨w.heap.size + 1, 6, none⟩) (by omega : w.heap.size ≤ w.heap.size + 1) (.slice F qs.length m1))
  have k9 := Lib.hid ((((((((k5.set (g := w.heap.size + 1) (by omega) 0 (.int .i64 most)).set (g := w.heap.size + 1) (by omega) 1 (.slice Dq l.length dq)).set (g := w.heap.size + 1) (by omega) 2 (.int .i64 ba)).set (g := w.heap.size + 1) (by omega) 3 (.int .i64 (v0 : Int))).set (g := w.heap.size + 1) (by omega) 4 (.int .i64 ((N : Int) + 1))).set (g := w.heap.size + 1) (by omega) 5 (.slice E hs.length f)).set (g := w.heap.size + 1) (by omega) 6 (.slice F qs.length m1)).mono (by omega : w.heap.size ≤ w.heap.size + 2))
  obtain ⟨b0, b1, b2, b3, b4, b5, b6⟩ := z5.get7
  have g0 := z5.f 0 (by simp)
  have g1 := z5.f 1 (by simp)
  have g2 := z5.f 2 (by simp)
  have g3 := z5.f 3 (by simp)
  have g4 := z5.f 4 (by simp)
  have g5 := z5.f 5 (by simp)
  have g6 := z5.f 6 (by simp)
  clear z5 k5 hb05
  go_wp2
  generalize ((((((((w4.setCell ⟨p, 4, none⟩ (.int .i64 ((N : Int) + 1))).setCell ⟨w.heap.size + 1, 0, none⟩ (.int .i64 most)).setCell ⟨w.heap.size + 1, 1, none⟩ (.slice Dq l.length dq)).setCell ⟨w.heap.size + 1, 2, none⟩ (.int .i64 ba)).setCell ⟨w.heap.size + 1, 3, none⟩ (.int .i64 (v0 : Int))).setCell ⟨w.heap.size + 1, 4, none⟩ (.int .i64 ((N : Int) + 1))).setCell ⟨w.heap.size + 1, 5, none⟩ (.slice E hs.length f)).setCell ⟨w.heap.size + 1, 6, none⟩ (.slice F qs.length m1)) = w9 at *
  obtain ⟨r0, r1, r2, r3, r4, r5, r6⟩ := z9.get7
  refine bodyPost_ret (v := .tuple #[.agg #[.int .i64 most, .slice Dq l.length dq, .int .i64 ba, .int .i64 (v0 : Int), .int .i64 ((N : Int) + 1), .slice E hs.length f, .slice F qs.length m1], .bool false, .int .i64 0]) ?_ rfl ⟨Dq, dq, E, f, F, m1, qs, rfl, hqs, k9.out, hb9.out⟩
  rw [results_cell_tmp2 rfl]
  go_simp
end Go.Proofs.YtjcockcilkiggaaGreat
