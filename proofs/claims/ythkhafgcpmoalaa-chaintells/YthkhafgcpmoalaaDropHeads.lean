/- slices.DeleteFunc at heads of a row of the call's own, with the law's test (the epochs outside two bounds): the heads that are left. It writes into that row alone. -/
import Derived.Test.YthkhafgcpmoalaaHeadRow
import Derived.Laws.IdiomCopy
import Derived.Laws.OwnMore
namespace Go.Proofs.Ythkhafgcpmoalaa
set_option maxRecDepth 100000
open Go.RowKit

/-- Outside the bounds. -/
def outB (fr to : Int) (h : Hd) : Bool := decide (h.1 < fr) || decide (to < h.1)
set_option maxHeartbeats 400000 in
theorem outIs (fr to : Int) (gf gt : Nat) (ep : Int) (rt pv : Nat) (tm : Int) (w : World) (hf : w.cell? ⟨gf, 0, none⟩ = some (.int .i64 fr)) (ht : w.cell? ⟨gt, 0, none⟩ = some (.int .i64 to)) (b : Bool) (hb : outB fr to (ep, rt, pv, tm) = b) :
    Calls Try.prog 18 #[.agg #[.int .i64 ep, .int .u64 (rt : Int), .int .u64 (pv : Int), .int .i64 tm], .pointer (some ⟨gf, 0, none⟩), .pointer (some ⟨gt, 0, none⟩)] w fun e w' => e = .returned (.bool b) ∧ Below w.heap.size w w' := by
  have hz := Bx.new w _ rfl _ [.int .i64 ep, .int .u64 (rt : Int), .int .u64 (pv : Int), .int .i64 tm] 25 rfl
  have hb0 : Below w.heap.size w (w.alloc (.cells #[.int .i64 ep, .int .u64 (rt : Int), .int .u64 (pv : Int), .int .i64 tm] 25)) := (Below.refl _ _).alloc (Nat.le_refl _) _
  have hf1 := kept hf hb0
  have ht1 := kept ht hb0
  obtain ⟨⟨z0, z1, z2, z3⟩, -⟩ := hz.get4
  clear hf ht hz
  unfold outB at hb
  dsimp only at hb
  by_cases h1 : ep < fr
  · have c1 : decide (ep < fr) = true := decide_eq_true h1
    rw [c1, Bool.true_or] at hb
    subst hb
    clear h1
    go_enter Try.func18, Try.ntmps18
    go_wp2
    go_ret
    exact ⟨rfl, hb0⟩
  · have c1 : decide (ep < fr) = false := decide_eq_false h1
    rw [c1, Bool.false_or] at hb
    clear h1
    go_enter Try.func18, Try.ntmps18
    go_wp2
    go_ret
    exact ⟨rfl, hb0⟩

/-- The first place that the test takes. -/
def firstOut (fr to : Int) : List Hd → Nat
  | [] => 0
  | h :: t => if outB fr to h = true then 0 else firstOut fr to t + 1
theorem firstOut_le (fr to : Int) (l : List Hd) : firstOut fr to l ≤ l.length := by
  induction l with
  | nil => simp [firstOut]
  | cons h t ih =>
    rw [firstOut, List.length_cons]
    split <;> omega
theorem firstOut_get (fr to : Int) (l : List Hd) (k : Nat) (hk : k < l.length) : (k < firstOut fr to l → outB fr to l[k] = false) ∧ (k = firstOut fr to l → outB fr to l[k] = true) := by
  induction l generalizing k with
  | nil => simp at hk
  | cons h t ih =>
    rw [firstOut]
    cases k with
    | zero =>
      by_cases e : outB fr to h = true
      · rw [if_pos e]; exact ⟨fun x => absurd x (by omega), fun _ => e⟩
      · rw [if_neg e]; exact ⟨fun _ => by simpa using e, fun x => absurd x (by omega)⟩
    | succ k =>
      have := ih k (by simpa using hk)
      by_cases e : outB fr to h = true
      · rw [if_pos e]; exact ⟨fun x => absurd x (by omega), fun x => absurd x (by omega)⟩
      · rw [if_neg e]
        exact ⟨fun x => this.1 (by omega), fun x => this.2 (by omega)⟩
set_option maxHeartbeats 1000000 in
theorem indexOut (fr to : Int) (gf gt : Nat) (A : Option Addr) (c : Nat) (l : List Hd) (w : World) (hm : l.length ≤ maxLen) (hA : Row w A (hcells l)) (hf : w.cell? ⟨gf, 0, none⟩ = some (.int .i64 fr)) (ht : w.cell? ⟨gt, 0, none⟩ = some (.int .i64 to)) (r : Int) (hr : (if firstOut fr to l = l.length then -1 else (firstOut fr to l : Int)) = r) :
    Calls Try.prog 33 #[.slice A l.length c, .func (.func 18) #[] #[.pointer (some ⟨gf, 0, none⟩), .pointer (some ⟨gt, 0, none⟩)]] w fun e w' => e = .returned (.int .i64 r) ∧ Below w.heap.size w w' := by
  unfold maxLen at hm
  have HP := Lib.hid (firstOut_get fr to l)
  have HL := Lib.hid (firstOut_le fr to l)
  have HR := Lib.hid hr
  clear hr
  go_enter Try.func33, Try.ntmps33
  go_wp2
  go_loopw [8] (fun i wr => ∃ k : Nat, k ≤ l.length ∧ i = .int .i64 k ∧ Hid (k ≤ firstOut fr to l) ∧ Below w.heap.size w wr) (fun i _ => l.length - (intOf i).toNat)
  case atStart => exact ⟨0, Nat.zero_le _, rfl, Nat.zero_le _, Below.refl _ _⟩
  case round =>
    obtain ⟨k, hk, rfl, HS, hbl⟩ := hrel
    by_cases hlt : k < l.length
    · obtain ⟨g, off, rfl, h1, h2, h3, h4⟩ := (hA.below hbl).head k hlt
      have hf1 := kept hf hbl
      have ht1 := kept ht hbl
      have hi0 : (0 : Int) ≤ (k : Int) := by omega
      have hi1 : (k : Int) < (l.length : Int) := by omega
      have HP' := Lib.hid (HP.out k hlt)
      clear hA hf ht HP
      obtain ⟨⟨ep, rt, pv, tm⟩, hx⟩ : ∃ x, l[k] = x := ⟨_, rfl⟩
      rw [hx] at h1 h2 h3 h4 HP'
      clear hx
      dsimp only at h1 h2 h3 h4
      obtain ⟨b, hb⟩ : ∃ b, outB fr to (ep, rt, pv, tm) = b := ⟨_, rfl⟩
      have hO := fun (w : World) hf ht => Lib.hid (outIs fr to gf gt ep rt pv tm w hf ht b hb)
      rw [hb] at HP'
      clear hb
      cases b with
      | true =>
        have HF : Hid (r = (k : Int)) := by
          show r = _
          have e : k = firstOut fr to l := by
            rcases Nat.lt_or_ge k (firstOut fr to l) with h | h
            · have := HP'.out.1 h; cases this
            · have := HS.out; omega
          rw [← HR.out, if_neg (by omega), ← e]
        clear HS HL HR HP'
        go_wp2_with fail
        refine (hO _ hf1 ht1).out.mono ?_
        rintro e w1 ⟨rfl, hb1⟩
        have hb2 := below_chain hbl hb1
        clear hO hf1 ht1
        go_wp2
        go_ret
        exact ⟨by rw [HF.out]; rfl, hb2⟩
      | false =>
        have HS' : Hid (k + 1 ≤ firstOut fr to l) := by
          show _ ≤ _
          rcases Nat.lt_or_ge k (firstOut fr to l) with h | h
          · exact h
          · have := HP'.out.2 (by have := HS.out; omega); cases this
        clear HS HL HR HP'
        go_wp2_with fail
        refine (hO _ hf1 ht1).out.mono ?_
        rintro e w1 ⟨rfl, hb1⟩
        have hb2 := below_chain hbl hb1
        clear hO hf1 ht1
        go_wp2
        go_roundw
        case rel => exact ⟨k + 1, by omega, by go_num, HS', hb2⟩
        case measure => simp [intOf]; omega
    · have HF : Hid (r = -1) := by
        show r = _
        have h1 := HS.out
        have h2 := HL.out
        rw [← HR.out, if_pos (by omega)]
      clear HS HL HR HP
      go_wp2
      go_ret
      exact ⟨by rw [HF.out]; rfl, hbl⟩

theorem hcells_set (l : List Hd) (i : Nat) (x : Hd) : hcells (l.set i x) = ((((hcells l).set (i * 4) (.int .i64 x.1)).set (i * 4 + 1) (.int .u64 (x.2.1 : Int))).set (i * 4 + 2) (.int .u64 (x.2.2.1 : Int))).set (i * 4 + 3) (.int .i64 x.2.2.2) := by
  induction l generalizing i with
  | nil => simp [hcells]
  | cons y l ih =>
    cases i with
    | zero => rfl
    | succ i =>
      rw [List.set_cons_succ, hcells_cons, ih, hcells_cons, show (i + 1) * 4 = i * 4 + 1 + 1 + 1 + 1 by omega, show i * 4 + 1 + 1 + 1 + 1 + 1 = (i * 4 + 1) + 1 + 1 + 1 + 1 by omega, show i * 4 + 1 + 1 + 1 + 1 + 2 = (i * 4 + 2) + 1 + 1 + 1 + 1 by omega, show i * 4 + 1 + 1 + 1 + 1 + 3 = (i * 4 + 3) + 1 + 1 + 1 + 1 by omega]
      simp only [List.set_cons_succ]
theorem below_cells {B g : Nat} (hg : B ≤ g) {w : World} : ∀ (vs : List Value) (o : Nat) (w' : World), Below B w w' → Below B w (w'.setCells g o vs)
  | [], _, _, h => h
  | v :: r, o, _, h => below_cells hg r (o + 1) _ (h.setCell (p := ⟨g, o, none⟩) hg v)
theorem Bx.row {w : World} {g : Nat} {vs : List Value} (h : Bx w g vs) : Row w (some ⟨g, 0, none⟩) vs := fun _ => ⟨g, 0, rfl, fun k hk => by rw [Nat.zero_add]; exact h.c k hk⟩
theorem own_bx {w : World} {base g n c : Nat} {e : TypeId} {size : Nat} {xs : List Value} (h : w.ownsRow base e size (.slice (some ⟨g, 0, none⟩) n c) n xs) : Bx w g xs := by
  have hl := h.1
  refine ⟨fun k hk => ?_, fun k _ => h.frozenAt k⟩
  rw [h.cellAt k (by omega)]
  exact List.getElem?_eq_getElem hk
theorem run_clear4 (w : World) (ty : TypeId) (g o n c : Nat) (hn : 0 < n) (hc : ∀ j, j < n * 4 → (w.cell? ⟨g, o + j, none⟩).isSome = true) (hf : ∀ j, j < n * 4 → w.frozen? ⟨g, o + j, none⟩ = false) :
    ∃ vs : List Value, vs.length = n * 4 ∧ (Builtin.clear_ #[22] ty #[.slice (some ⟨g, o, none⟩) n c]).run Try.prog w = .ok (.tuple #[]) (w.setCells g o vs) := by
  obtain ⟨i0, hi, hz0, hz1, hz2⟩ := hd_info
  have hv : ∀ w, (zeroValue 25).run Try.prog w = .ok (.agg #[.int .i64 0, .int .u64 0, .int .u64 0, .int .i64 0]) w := fun w => by simp [zeroValue, typeInfo, hi, hz0]
  have hl : (Builtin.zeroCells (Value.agg #[.int .i64 0, .int .u64 0, .int .u64 0, .int .i64 0]).cells n).toList.length = n * 4 := by simp [Builtin.zeroCells, Value.cells]
  refine ⟨(Builtin.zeroCells (Value.agg #[.int .i64 0, .int .u64 0, .int .u64 0, .int .i64 0]).cells n).toList, hl, ?_⟩
  have hst := run_storeCells_cells (P := Try.prog) g o (Builtin.zeroCells (Value.agg #[.int .i64 0, .int .u64 0, .int .u64 0, .int .i64 0]).cells n).toList 0 w (by rw [hl]; simpa using hc) (by rw [hl]; simpa using hf) (by
    intro v hv'
    simp only [Builtin.zeroCells, Value.cells, Array.toList_map, List.mem_map] at hv'
    obtain ⟨i, _, rfl⟩ := hv'
    have : i % 4 = 0 ∨ i % 4 = 1 ∨ i % 4 = 2 ∨ i % 4 = 3 := by omega
    rcases this with e | e | e | e <;> (show Value.oneCell' ((#[Value.int .i64 0, .int .u64 0, .int .u64 0, .int .i64 0] : Array Value)[i % 4]!) = true; rw [e]; rfl))
  rw [Nat.add_zero] at hst
  obtain ⟨m, rfl⟩ : ∃ m, n = m + 1 := ⟨n - 1, by omega⟩
  simp [Builtin.clear_, run_underlying Try.underlying22, hv, hst]

def keepB (fr to : Int) (h : Hd) : Bool := !outB fr to h
theorem firstOut_filter (fr to : Int) (l : List Hd) : (l.take (firstOut fr to l)).filter (keepB fr to) = l.take (firstOut fr to l) := by
  rw [List.filter_eq_self]
  intro x hx
  obtain ⟨i, hi, rfl⟩ := List.mem_iff_getElem.1 hx
  rw [List.length_take] at hi
  rw [List.getElem_take]
  have := (firstOut_get fr to l i (by omega)).1 (by omega)
  rw [keepB, this]
  rfl
/-- What DeleteFunc leaves: the front of the row holds what is kept. -/
def Dropped (T : List Hd) (g c base : Nat) (w : World) (e : Ending) (w' : World) : Prop := e = .returned (.slice (some ⟨g, 0, none⟩) T.length c) ∧ Row w' (some ⟨g, 0, none⟩) (hcells T) ∧ Below base w w'
set_option maxHeartbeats 2000000 in
theorem deleteOut (fr to : Int) (gf gt g c : Nat) (l : List Hd) (base : Nat) (w : World) (hm : l.length ≤ 1000) (hcm : c ≤ maxLen) (hlc : l.length ≤ c) (hg : base ≤ g) (hbase : base ≤ w.heap.size) (hx : Bx w g (hcells l)) (hfb : gf < base) (htb : gt < base) (hf : w.cell? ⟨gf, 0, none⟩ = some (.int .i64 fr)) (ht : w.cell? ⟨gt, 0, none⟩ = some (.int .i64 to)) (T : List Hd) (hT : l.filter (keepB fr to) = T) :
    Calls Try.prog 16 #[.slice (some ⟨g, 0, none⟩) l.length c, .func (.func 18) #[] #[.pointer (some ⟨gf, 0, none⟩), .pointer (some ⟨gt, 0, none⟩)]] w (Dropped T g c base w) := by
  unfold maxLen at hcm
  have hI := fun (w : World) hA hf ht r hr => Lib.hid (indexOut fr to gf gt (some ⟨g, 0, none⟩) c l w (by unfold maxLen; omega) hA hf ht r hr)
  by_cases h0 : firstOut fr to l = l.length
  · have hT' : Hid (T = l) := by
      show T = l
      have := firstOut_filter fr to l
      rw [h0, List.take_length] at this
      rw [← hT, this]
    have hI' := fun (w : World) hA hf ht => hI w hA hf ht (-1) (by rw [if_pos h0])
    clear hI hT h0
    go_enter Try.func16, Try.ntmps16
    go_wp2_with fail
    refine (hI' _ hx.row hf ht).out.mono ?_
    rintro e w1 ⟨rfl, hb1⟩
    go_wp2
    go_ret
    rw [hT'.out]
    exact ⟨rfl, (hx.below hb1).row, hb1.mono hbase⟩
  · obtain ⟨p, hp⟩ : ∃ p, firstOut fr to l = p := ⟨_, rfl⟩
    have hpl : p < l.length := by have := firstOut_le fr to l; omega
    have hst := firstOut_filter fr to l
    have hout := (firstOut_get fr to l p hpl).2 hp.symm
    rw [hp] at hst
    have HF0 : Hid ((l.take (p + 1)).filter (keepB fr to) = l.take p) := by
      show _ = _
      rw [List.take_succ_eq_append_getElem hpl, List.filter_append, hst, List.filter_cons, keepB, hout]
      simp
    have hI' := fun (w : World) hA hf ht => hI w hA hf ht (p : Int) (by rw [if_neg h0, hp])
    have HT := Lib.hid hT
    have k1 : ((p : Int) == -1) = false := beq_eq_false_iff_ne.2 (by omega)
    clear hI hT h0 hp hst hout
    go_enter Try.func16, Try.ntmps16
    go_wp2_with fail
    refine (hI' _ hx.row hf ht).out.mono ?_
    rintro e w1 ⟨rfl, hb1⟩
    have hx1 := hx.below hb1
    have hbw1 : Below base w w1 := hb1.mono hbase
    clear hx hb1 hI'
    go_wp2
    go_loopw [5, 6] (fun s5 s6 wr => ∃ (i j : Nat) (L : List Hd), s5 = .int .i64 i ∧ s6 = .int .i64 j ∧ i < j ∧ j ≤ l.length ∧ Hid (L.length = l.length ∧ (l.take j).filter (keepB fr to) = L.take i ∧ L.drop j = l.drop j) ∧ Bx wr g (hcells L) ∧ Below base w wr) (fun _ s6 _ => l.length - (intOf s6).toNat)
    case atStart => exact ⟨p, p + 1, l, rfl, by go_num, by omega, by omega, ⟨rfl, HF0.out, rfl⟩, hx1, hbw1⟩
    case round =>
      obtain ⟨i, j, L, rfl, rfl, hij, hjl, HS, hxr, hbr⟩ := hrel
      clear HF0 hx1 hbw1
      have hfr := (hbr.cell (p := ⟨gf, 0, none⟩) hfb).trans hf
      have htr := (hbr.cell (p := ⟨gt, 0, none⟩) htb).trans ht
      have hsz := hbr.size
      by_cases hlt : j < l.length
      · have hjL : j < L.length := by have := HS.out.1; omega
        have hiL : i < L.length := by omega
        obtain ⟨g', off', eA, z1, z2, z3, z4⟩ := hxr.row.head j hjL
        injection eA with eA
        injection eA with eA1 eA2
        subst eA1; subst eA2
        have hi0 : (0 : Int) ≤ (j : Int) := by omega
        have hi1 : (j : Int) < (l.length : Int) := by omega
        have hi2 : (0 : Int) ≤ (i : Int) := by omega
        have hi3 : (i : Int) < (l.length : Int) := by omega
        have hLj : Hid (L[j] = l[j]) := by
          show _ = _
          have := HS.out.2.2
          rw [List.drop_eq_getElem_cons hjL, List.drop_eq_getElem_cons hlt] at this
          exact (List.cons.inj this).1
        obtain ⟨⟨ep, rt, pv, tm⟩, hy⟩ : ∃ x, L[j] = x := ⟨_, rfl⟩
        rw [hy] at z1 z2 z3 z4
        dsimp only at z1 z2 z3 z4
        rw [Nat.zero_add] at z1 z2 z3 z4
        have hlj : Hid (l[j] = (ep, rt, pv, tm)) := by show _ = _; rw [← hLj.out, hy]
        obtain ⟨b, hb⟩ : ∃ b, outB fr to (ep, rt, pv, tm) = b := ⟨_, rfl⟩
        have hO := fun (w : World) hf ht => Lib.hid (outIs fr to gf gt ep rt pv tm w hf ht b hb)
        have hb0 := hbr.alloc (Nat.le_trans hbase hsz) (.cells #[.int .i64 ep, .int .u64 (rt : Int), .int .u64 (pv : Int), .int .i64 tm] 25)
        have hx0 := hxr.alloc (.cells #[.int .i64 ep, .int .u64 (rt : Int), .int .u64 (pv : Int), .int .i64 tm] 25)
        have hv0 := Bx.new wr _ rfl _ [.int .i64 ep, .int .u64 (rt : Int), .int .u64 (pv : Int), .int .i64 tm] 25 rfl
        have hf0 := (hb0.cell (p := ⟨gf, 0, none⟩) hfb).trans hf
        have ht0 := (hb0.cell (p := ⟨gt, 0, none⟩) htb).trans ht
        obtain ⟨⟨v1, v2, v3, v4⟩, -⟩ := hv0.get4
        have hstep : Hid ((l.take (j + 1)).filter (keepB fr to) = L.take i ++ if b = true then [] else [(ep, rt, pv, tm)]) := by
          show _ = _
          rw [List.take_succ_eq_append_getElem hlt, List.filter_append, HS.out.2.1, hlj.out, List.filter_cons, keepB, hb]
          cases b <;> simp
        clear hb hy hLj hlj hxr hfr htr
        have hdrop : Hid (L.drop (j + 1) = l.drop (j + 1)) := by
          show _ = _
          have := congrArg (List.drop 1) HS.out.2.2
          rwa [List.drop_drop, List.drop_drop] at this
        cases b with
        | true =>
          go_wp2_with fail
          refine (hO _ hf0 ht0).out.mono ?_
          rintro e w2 ⟨rfl, hb2⟩
          have hb02 := hb0.trans (hb2.mono (Nat.le_trans hbase (by simp; omega)))
          have hx2 := hx0.below hb2
          clear hO hf0 ht0 hb0 hx0 hv0 v1 v2 v3 v4 z1 z2 z3 z4
          go_wp2
          go_roundw
          case rel => exact ⟨i, j + 1, L, rfl, by go_num, by omega, by omega, ⟨HS.out.1, by rw [hstep.out]; simp, hdrop.out⟩, hx2, hb02⟩
          case measure => simp [intOf]; omega
        | false =>
          go_wp2_with fail
          refine (hO _ hf0 ht0).out.mono ?_
          rintro e w2 ⟨rfl, hb2⟩
          have hb02 := hb0.trans (hb2.mono (Nat.le_trans hbase (by simp; omega)))
          have hx2 := hx0.below hb2
          obtain ⟨⟨v1, v2, v3, v4⟩, -⟩ := (hv0.below hb2).get4
          have hk4 : i * 4 + 3 < (hcells L).length := by rw [hcells_length]; omega
          have y0 := hx2.c (i * 4) (by omega)
          have y1 := hx2.c (i * 4 + 1) (by omega)
          have y2 := hx2.c (i * 4 + 2) (by omega)
          have y3 := hx2.c (i * 4 + 3) (by omega)
          have f0 := hx2.f (i * 4) (by omega)
          have f1 := hx2.f (i * 4 + 1) (by omega)
          have f2 := hx2.f (i * 4 + 2) (by omega)
          have f3 := hx2.f (i * 4 + 3) (by omega)
          have hx3 := (((hx2.set (i * 4) (.int .i64 ep)).set (i * 4 + 1) (.int .u64 (rt : Int))).set (i * 4 + 2) (.int .u64 (pv : Int))).set (i * 4 + 3) (.int .i64 tm)
          rw [← hcells_set L i (ep, rt, pv, tm)] at hx3
          have hb3 := (((hb02.setCell (p := ⟨g, i * 4, none⟩) hg (.int .i64 ep)).setCell (p := ⟨g, i * 4 + 1, none⟩) hg (.int .u64 (rt : Int))).setCell (p := ⟨g, i * 4 + 2, none⟩) hg (.int .u64 (pv : Int))).setCell (p := ⟨g, i * 4 + 3, none⟩) hg (.int .i64 tm)
          clear hO hf0 ht0 hb0 hx0 hv0 hx2 hb02 z1 z2 z3 z4
          generalize (hcells L)[i * 4] = o0 at *
          generalize (hcells L)[i * 4 + 1] = o1 at *
          generalize (hcells L)[i * 4 + 2] = o2 at *
          generalize (hcells L)[i * 4 + 3] = o3 at *
          go_wp2
          go_roundw
          case rel => exact ⟨i + 1, j + 1, L.set i (ep, rt, pv, tm), by go_num, by go_num, by omega, by omega, ⟨by rw [List.length_set]; exact HS.out.1, by rw [hstep.out, List.take_succ_eq_append_getElem (by rw [List.length_set]; exact hiL), List.getElem_set_self, List.take_set_of_le (Nat.le_refl _)]; rfl, by rw [List.drop_set_of_lt (by omega)]; exact hdrop.out⟩, hx3, hb3⟩
          case measure => simp [intOf]; omega
      · obtain rfl : j = l.length := by omega
        have hTi : Hid (T = L.take i) := by
          show _ = _
          have := HS.out.2.1
          rw [List.take_length] at this
          rw [← HT.out, this]
        have hLl : Hid (L.length = l.length) := HS.out.1
        have hil : i < L.length := by have := HS.out.1; omega
        have hTl : T.length = i := by rw [hTi.out, List.length_take]; omega
        obtain ⟨vs, hvs, hcl⟩ : ∃ vs : List Value, vs.length = (l.length - i) * 4 ∧ ∀ ty, (Builtin.clear_ #[22] ty #[.slice (some ⟨g, i * 4, none⟩) (l.length - i) (c - i)]).run Try.prog wr = .ok (.tuple #[]) (wr.setCells g (i * 4) vs) := by
          have h1 : ∀ j, j < (l.length - i) * 4 → (wr.cell? ⟨g, i * 4 + j, none⟩).isSome = true := fun j hj => by rw [hxr.c (i * 4 + j) (by rw [hcells_length]; have := hLl.out; omega)]; rfl
          have h2 : ∀ j, j < (l.length - i) * 4 → wr.frozen? ⟨g, i * 4 + j, none⟩ = false := fun j hj => hxr.f (i * 4 + j) (by rw [hcells_length]; have := hLl.out; omega)
          obtain ⟨vs, h3, h4⟩ := run_clear4 wr 0 g (i * 4) (l.length - i) (c - i) (by omega) h1 h2
          exact ⟨vs, h3, fun ty => h4⟩
        have hrow : Row (wr.setCells g (i * 4) vs) (some ⟨g, 0, none⟩) (hcells T) := by
          rw [hTi.out]
          have hr0 : Row wr (some ⟨g, 0, none⟩) (hcells (L.take i)) := hxr.row.takeH i
          intro hpos
          obtain ⟨g', off', eA, hc⟩ := hr0 hpos
          injection eA with eA
          injection eA with eA1 eA2
          subst eA1; subst eA2
          refine ⟨g, 0, rfl, fun k hk => ?_⟩
          rw [World.cell?_setCells_out g vs (i * 4) wr _ (fun _ _ => Or.inl ?_)]
          · exact hc k hk
          · rw [hcells_length, List.length_take] at hk
            show 0 + k < i * 4
            omega
        have hbe := below_cells hg vs (i * 4) wr hbr
        have hi0 : (0 : Int) ≤ (i : Int) := by omega
        have hi1 : (i : Int) ≤ (l.length : Int) := by omega
        have hi2 : (i : Int) ≤ (c : Int) := by omega
        have hi4 : (l.length : Int) ≤ (c : Int) := by omega
        have hi5 : ¬ c = i := by omega
        clear HS HT hxr hfr htr hvs hTi
        go_wp2
        go_ret
        exact ⟨by rw [hTl]; rfl, hrow, hbe⟩
end Go.Proofs.Ythkhafgcpmoalaa
