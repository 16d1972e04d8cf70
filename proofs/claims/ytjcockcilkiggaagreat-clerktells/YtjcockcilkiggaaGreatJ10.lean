/- append onto rows of the call's own with elements of one cell, whatever is appended: the run, one step of a region that draws, and in a straight line; rows of truth values. -/
import Derived.Test.YtjcockcilkiggaaGreatJ09
import Derived.Test.YtjcockcilkiggaaGreatJ06
import Derived.Test.YtjcockcilkiggaaGreatJ08
namespace Go.Proofs.YtjcockcilkiggaaGreat
set_option maxRecDepth 100000
open Go.RowKit

/-- append onto a row of the call's own: the run itself. -/
theorem run_app1 (t e : TypeId) (i : TypeInfo) (z : Value) (bytes : Nat) (ht : Tryz.prog.underlying t = some (.slice e)) (hi : Tryz.prog.info? e = some i) (hz : i.zero = some z) (hs1 : i.size = 1) (hby : i.bytes = bytes) (hz1 : z.cells.size = 1) (hb0 : 0 < bytes)
    (w : World) (ty : TypeId) (base : Nat) (v : Value) (xs : List Value) (hown : w.ownsRow base e 1 v xs.length xs)
    (B : Option Addr) (c : Nat) (news : List Value) (hB : Row w B news) (hone : ∀ u ∈ news, u.oneCell' = true) (hsmall : (xs.length + news.length) * bytes ≤ 140737488355328) (hbase : base ≤ w.heap.size) :
    ∃ v' w', (Builtin.append_ #[t, t] ty #[v, .slice B news.length c]).run Tryz.prog w = .ok v' w' ∧ w'.ownsRow base e 1 v' (xs ++ news).length (xs ++ news) ∧ w.grownBy w' v.ownBlock := by
  by_cases h0 : news = []
  · subst h0
    refine ⟨v, w, ?_, by rw [List.append_nil]; exact hown, World.grownBy.refl w _⟩
    rcases hown.2 with ⟨rfl, e0⟩ | ⟨g, cap, cur, rfl, _, _, hnc, _⟩
    · cases B <;> simp [Builtin.append_, run_underlying ht, sizeOf, typeInfo, hi, Builtin.lenOf, Builtin.firstCells, loadCells, loadCellsFrom]
    · cases B <;> simp [Builtin.append_, run_underlying ht, sizeOf, typeInfo, hi, Builtin.lenOf, Builtin.firstCells, loadCells, loadCellsFrom, hnc, storeCells]
  · have hpos : 0 < news.length := List.length_pos_iff.2 h0
    obtain ⟨gb, off, rfl, hc⟩ := hB hpos
    have hnews : ∀ j u, news[j]? = some u → w.cell? ((⟨gb, off, none⟩ : Addr).add j) = some u := fun j u hu => by
      obtain ⟨hj, rfl⟩ := List.getElem?_eq_some_iff.1 hu
      rw [Go.WideShapes.add_plain]
      exact hc j hj
    have hle : xs.length + news.length ≤ (xs.length + news.length) * bytes := Nat.le_mul_of_pos_right _ hb0
    obtain ⟨v', w', h1, h2, h3, _⟩ := run_append_own (P := Tryz.prog) (w := w) base t ty e i z 1 bytes ht hi hz hs1 hby hz1 (by decide) v xs.length xs hown ⟨gb, off, none⟩ news.length c news (by omega) hnews hone (by unfold maxLen; omega) hsmall hbase
    exact ⟨v', w', h1, by rw [List.length_append]; exact h2, h3⟩

theorem mcells_one (l : List Nat) : ∀ u ∈ mcells l, u.oneCell' = true := fun u hu => by obtain ⟨_, _, rfl⟩ := List.mem_map.1 hu; rfl
theorem mark_row (w : World) (z : Nat) (t : TypeId) : Row (w.alloc (.cells #[.int .u64 (z : Int)] t)) (some ⟨w.heap.size, 0, none⟩) (mcells [z]) := Row.new w _ _ _ t rfl rfl
/-- One hash in a block just made is a row of the call's own. -/
theorem mark_own (w : World) (z base : Nat) (hb : base ≤ w.heap.size) : (w.alloc (.cells #[.int .u64 (z : Int)] 29)).ownsRow base 29 1 (.slice (some ⟨w.heap.size, 0, none⟩) 1 1) 1 (mcells [z]) := by
  refine ⟨rfl, .inr ⟨w.heap.size, 1, _, rfl, hb, heap_alloc_new w _, Nat.le_refl _, by unfold maxLen; omega, rfl, rfl⟩⟩

theorem own_cap1 {w : World} {base size : Nat} {e : TypeId} {A : Option Addr} {n c : Nat} {xs : List Value} (h : w.ownsRow base e size (.slice A n c) n xs) : n ≤ c ∧ c ≤ maxLen := by
  rcases h.2 with ⟨h0, rfl⟩ | ⟨g, cap, cur, hv, _, _, h1, h2, _⟩
  · injection h0 with _ _ e3
    subst e3
    exact ⟨Nat.le_refl _, by unfold maxLen; omega⟩
  · injection hv with _ _ e3
    subst e3
    exact ⟨h1, h2⟩
/-- The cells of a list of truth values. -/
def tcells (l : List Bool) : List Value := l.map .bool
theorem tcells_length (l : List Bool) : (tcells l).length = l.length := by simp [tcells]
theorem tcells_append (a b : List Bool) : tcells (a ++ b) = tcells a ++ tcells b := by simp [tcells]
theorem tcells_one (l : List Bool) : ∀ u ∈ tcells l, u.oneCell' = true := fun u hu => by obtain ⟨_, _, rfl⟩ := List.mem_map.1 hu; rfl
theorem Row.truth {w : World} {A : Option Addr} {l : List Bool} (h : Row w A (tcells l)) (k : Nat) (b : Bool) (hk : l[k]? = some b) : ∃ g off, A = some ⟨g, off, none⟩ ∧ w.cell? ⟨g, off + k, none⟩ = some (.bool b) := by
  obtain ⟨hlt, rfl⟩ := List.getElem?_eq_some_iff.1 hk
  obtain ⟨g, off, e, hc⟩ := h (by rw [tcells_length]; omega)
  refine ⟨g, off, e, ?_⟩
  rw [hc k (by rw [tcells_length]; exact hlt)]
  simp [tcells]
theorem truth_row (w : World) (b : Bool) (t : TypeId) : Row (w.alloc (.cells #[.bool b] t)) (some ⟨w.heap.size, 0, none⟩) (tcells [b]) := Row.new w _ _ _ t rfl rfl


end Go.Proofs.YtjcockcilkiggaaGreat
/- Lists of books: a row of slices, and the rows of entries behind them. -/
namespace Go.Proofs.YtjcockcilkiggaaGreat
set_option maxRecDepth 100000
open Go.RowKit

/-- A book as it lies: its address, its capacity, its entries. -/
abbrev Bp := Option Addr × Nat × List Ent
def bkcells (ps : List Bp) : List Value := ps.map fun p => .slice p.1 p.2.2.length p.2.1
/-- The books themselves. -/
def bks (ps : List Bp) : List (List Ent) := ps.map fun p => p.2.2
theorem bkcells_length (ps : List Bp) : (bkcells ps).length = ps.length := by simp [bkcells]
theorem bkcells_append (a b : List Bp) : bkcells (a ++ b) = bkcells a ++ bkcells b := by simp [bkcells]
theorem bkcells_one (ps : List Bp) : ∀ u ∈ bkcells ps, u.oneCell' = true := fun u hu => by obtain ⟨_, _, rfl⟩ := List.mem_map.1 hu; rfl
theorem bks_length (ps : List Bp) : (bks ps).length = ps.length := by simp [bks]
theorem bks_append (a b : List Bp) : bks (a ++ b) = bks a ++ bks b := by simp [bks]
theorem bks_get (ps : List Bp) (k : Nat) (hk : k < ps.length) : (bks ps)[k]'(by rw [bks_length]; exact hk) = ps[k].2.2 := by simp [bks]
structure Books (W : World) (B : Option Addr) (ps : List Bp) : Prop where
  row : Row W B (bkcells ps)
  each : ∀ p ∈ ps, Row W p.1 (encells p.2.2)
theorem Books.below {W W' : World} {B : Option Addr} {ps : List Bp} (h : Books W B ps) (hb : Below W.heap.size W W') : Books W' B ps := ⟨h.row.below hb, fun p hp => (h.each p hp).below hb⟩
theorem Books.alloc {W : World} {B : Option Addr} {ps : List Bp} (h : Books W B ps) (o : Obj) : Books (W.alloc o) B ps := ⟨h.row.alloc o, fun p hp => (h.each p hp).alloc o⟩
theorem Books.nil (W : World) (B : Option Addr) : Books W B [] := ⟨Row.nil_ _ _, fun p hp => by simp at hp⟩
theorem Books.get {W : World} {B : Option Addr} {ps : List Bp} (h : Books W B ps) (k : Nat) (hk : k < ps.length) :
    ∃ g off, B = some ⟨g, off, none⟩ ∧ W.cell? ⟨g, off + k, none⟩ = some (.slice ps[k].1 ps[k].2.2.length ps[k].2.1) ∧ Row W ps[k].1 (encells ps[k].2.2) := by
  obtain ⟨g, off, e, hc⟩ := h.row (by rw [bkcells_length]; omega)
  refine ⟨g, off, e, ?_, h.each _ (List.getElem_mem hk)⟩
  rw [hc k (by rw [bkcells_length]; exact hk)]
  simp [bkcells]
end Go.Proofs.YtjcockcilkiggaaGreat
/- The reference: SameClerk at two clerks that hold the same returns true. It writes nothing that was there. -/
namespace Go.Proofs.YtjcockcilkiggaaGreat
set_option maxRecDepth 100000
open Go.RowKit

/-- A clerk's cells. -/
abbrev ckc (most : Int) (A : Option Addr) (c : Nat) (l : List Ak) (ba ev nw : Int) (H : Option Addr) (d : Nat) (hs : List Hd) (B : Option Addr) (e : Nat) (ps : List Bp) : List Value :=
  [.int .i64 most, .slice A l.length c, .int .i64 ba, .int .i64 ev, .int .i64 nw, .slice H hs.length d, .slice B ps.length e]
theorem Bx.get7 {w : World} {g : Nat} {v0 v1 v2 v3 v4 v5 v6 : Value} (h : Bx w g [v0, v1, v2, v3, v4, v5, v6]) :
    w.cell? ⟨g, 0, none⟩ = some v0 ∧ w.cell? ⟨g, 1, none⟩ = some v1 ∧ w.cell? ⟨g, 2, none⟩ = some v2 ∧ w.cell? ⟨g, 3, none⟩ = some v3 ∧ w.cell? ⟨g, 4, none⟩ = some v4 ∧ w.cell? ⟨g, 5, none⟩ = some v5 ∧ w.cell? ⟨g, 6, none⟩ = some v6 :=
  ⟨h.c 0 (by simp), h.c 1 (by simp), h.c 2 (by simp), h.c 3 (by simp), h.c 4 (by simp), h.c 5 (by simp), h.c 6 (by simp)⟩

set_option maxHeartbeats 4000000 in
theorem refSameClerk (most ba ev nw : Int) (l : List Ak) (hs : List Hd) (ps qs : List Bp) (A A' H H' B B' : Option Addr) (c c' d d' e e' : Nat) (w : World) (hl : l.length ≤ 1000) (hh : hs.length ≤ 1000) (hp : ps.length ≤ 1000) (hb : ∀ p ∈ ps, p.2.2.length ≤ 1000) (hpq : bks ps = bks qs)
    (hA : Row w A (qcells l)) (hA' : Row w A' (qcells l)) (hH : Row w H (hcells hs)) (hH' : Row w H' (hcells hs)) (hB : Books w B ps) (hB' : Books w B' qs) :
    Calls Tryz.prog 8 #[.agg #[.int .i64 most, .slice A l.length c, .int .i64 ba, .int .i64 ev, .int .i64 nw, .slice H hs.length d, .slice B ps.length e], .agg #[.int .i64 most, .slice A' l.length c', .int .i64 ba, .int .i64 ev, .int .i64 nw, .slice H' hs.length d', .slice B' qs.length e']] w fun x w' => x = .returned (.bool true) ∧ Below w.heap.size w w' := by
  have hQ := fun (w : World) hA hA' => Lib.hid (refSameQueue most most A A' c c' l l w (by unfold maxLen; omega) hA hA' true (by simp))
  have hS := fun (w : World) hH hH' => Lib.hid (refSameHeads H H' d d' hs hs w (by unfold maxLen; omega) true (by simp) hH hH')
  have hql : qs.length = ps.length := by rw [← bks_length, ← bks_length, hpq]
  have HPQ := Lib.hid hpq
  have HB := Lib.hid hb
  rw [hql]
  have x0 := (Bx.new w _ rfl _ (ckc most A c l ba ev nw H d hs B e ps) 28 rfl).alloc (.cells #[.int .i64 most, .slice A' l.length c', .int .i64 ba, .int .i64 ev, .int .i64 nw, .slice H' hs.length d', .slice B' ps.length e'] 28)
  have y0 := Bx.new (w.alloc (.cells #[.int .i64 most, .slice A l.length c, .int .i64 ba, .int .i64 ev, .int .i64 nw, .slice H hs.length d, .slice B ps.length e] 28)) (w.heap.size + 1) (by simp) _ [.int .i64 most, .slice A' l.length c', .int .i64 ba, .int .i64 ev, .int .i64 nw, .slice H' hs.length d', .slice B' ps.length e'] 28 rfl
  have hb0 : Below w.heap.size w ((w.alloc (.cells #[.int .i64 most, .slice A l.length c, .int .i64 ba, .int .i64 ev, .int .i64 nw, .slice H hs.length d, .slice B ps.length e] 28)).alloc (.cells #[.int .i64 most, .slice A' l.length c', .int .i64 ba, .int .i64 ev, .int .i64 nw, .slice H' hs.length d', .slice B' ps.length e'] 28)) := ((Below.refl _ _).alloc (Nat.le_refl _) _).alloc (by simp) _
  have hb1 : Below w.heap.size w _ := hb0
  have hA1 := (hA.alloc (.cells #[.int .i64 most, .slice A l.length c, .int .i64 ba, .int .i64 ev, .int .i64 nw, .slice H hs.length d, .slice B ps.length e] 28)).alloc (.cells #[.int .i64 most, .slice A' l.length c', .int .i64 ba, .int .i64 ev, .int .i64 nw, .slice H' hs.length d', .slice B' ps.length e'] 28)
  have hA1' := (hA'.alloc (.cells #[.int .i64 most, .slice A l.length c, .int .i64 ba, .int .i64 ev, .int .i64 nw, .slice H hs.length d, .slice B ps.length e] 28)).alloc (.cells #[.int .i64 most, .slice A' l.length c', .int .i64 ba, .int .i64 ev, .int .i64 nw, .slice H' hs.length d', .slice B' ps.length e'] 28)
  obtain ⟨a0, a1, a2, a3, a4, a5, a6⟩ := x0.get7
  obtain ⟨b0, b1, b2, b3, b4, b5, b6⟩ := y0.get7
  clear hpq hb hb1 hql
  go_enter Tryz.func8, Tryz.ntmps8
  go_wp2_with fail
  refine (hQ _ hA1 hA1').out.mono ?_
  rintro x w1 ⟨rfl, hbn⟩
  have hb1 := below_chain hb0 hbn
  have x1 := x0.below hbn
  have y1 := y0.below hbn
  clear a0 a1 a2 a3 a4 a5 a6 b0 b1 b2 b3 b4 b5 b6 x0 y0 hb0 hbn hQ hA1 hA1' hA hA'
  obtain ⟨a0, a1, a2, a3, a4, a5, a6⟩ := x1.get7
  obtain ⟨b0, b1, b2, b3, b4, b5, b6⟩ := y1.get7
  go_wp2_with fail
  refine (hS _ (hH.below hb1) (hH'.below hb1)).out.mono ?_
  rintro x w2 ⟨rfl, m2, hw2⟩
  subst hw2
  have hb2 : Below w.heap.size w (w1.drewN m2) := below_chain hb1 (below_of_drewN _ _ _)
  have x2 := x1.below (below_of_drewN _ _ m2)
  have y2 := y1.below (below_of_drewN _ _ m2)
  clear a0 a1 a2 a3 a4 a5 a6 b0 b1 b2 b3 b4 b5 b6 x1 y1 hb1 hS hH hH'
  obtain ⟨a0, a1, a2, a3, a4, a5, a6⟩ := x2.get7
  obtain ⟨b0, b1, b2, b3, b4, b5, b6⟩ := y2.get7
  go_wp2
  have hB2 := hB.below hb2
  have hB2' := hB'.below hb2
  clear a0 a1 a2 a3 a4 a5 a6 b0 b1 b2 b3 b4 b5 b6 hB hB'
  generalize w1.drewN m2 = v2 at *
  go_loopw [53] (fun i wr => ∃ k : Nat, k ≤ ps.length ∧ i = .int .i64 k ∧ Below v2.heap.size v2 wr) (fun i _ => ps.length - (intOf i).toNat)
  case atStart => exact ⟨0, Nat.zero_le _, rfl, Below.refl _ _⟩
  case round =>
    obtain ⟨k, hk, rfl, hbl⟩ := hrel
    have x3 := x2.below hbl
    have y3 := y2.below hbl
    have hB3 := hB2.below hbl
    have hB3' := hB2'.below hbl
    have hb3 := below_chain hb2 hbl
    by_cases hlt : k < ps.length
    · have hlt' : k < qs.length := by have := congrArg List.length HPQ.out; rw [bks_length, bks_length] at this; omega
      obtain ⟨g1, o1, rfl, j1, r1⟩ := hB3.get k hlt
      obtain ⟨g2, o2, rfl, j2, r2⟩ := hB3'.get k hlt'
      have he : qs[k].2.2 = ps[k].2.2 := by rw [← bks_get qs k hlt', ← bks_get ps k hlt]; congr 1; exact HPQ.out.symm
      rw [he] at j2 r2
      have hsm := HB.out _ (List.getElem_mem hlt)
      generalize ps[k].2.2 = bk at *
      generalize ps[k].1 = P1 at *
      generalize ps[k].2.1 = P2 at *
      generalize qs[k].1 = Q1 at *
      generalize qs[k].2.1 = Q2 at *
      have hE := fun (w : World) h1 h2 => Lib.hid (refSameBook P1 Q1 P2 Q2 bk bk w (by unfold maxLen; omega) true (by simp) h1 h2)
      have i0 : (0 : Int) ≤ (k : Int) := by omega
      have i1 : (k : Int) < (ps.length : Int) := by omega
      have a6 := x3.get7.2.2.2.2.2.2
      have b6 := y3.get7.2.2.2.2.2.2
      clear x2 y2 hB2 hB2' hB3 hB3' hb3 x3 y3 he hsm hlt' hb2
      go_wp2
      go_quiet (first | (go_at_call 25; refine Calls.quiet_of (hE _ (r1.drewN _) (r2.drewN _)).out) | fail)
      go_wp2
      go_roundw
      case rel => exact ⟨k + 1, by omega, by go_num, below_chain hbl (below_of_drewN _ _ _)⟩
      case measure => simp [intOf]; omega
    · clear x2 y2 hB2 hB2' hB3 hB3' x3 y3 hb2
      go_wp2
      go_ret
      exact ⟨rfl, hb3⟩
end Go.Proofs.YtjcockcilkiggaaGreat
