/- package change: the search that Look makes, a function that calls itself: it counts the prefixes examined and adds the names found. It writes into the two variables of Look that count and collect, and into nothing else that was there. -/
import Derived.Test.YtmmmolbejfdamaaChangeSame
import Derived.Test.YtmmmolbejfdamaaFoundAt
import Derived.Test.YtmmmolbejfdamaaMapS
import Derived.Deep.RegionLaw
namespace Go.Proofs.Ytmmmolbejfdamaa
set_option maxRecDepth 100000
open Go.RowKit

/-- What is known of the books and the names ahead of the search. -/
structure LkBase (w1 : World) (g gA gB : Nat) (A B N : Option Addr) (a b : List Ent) (ca cb cn : Nat) : Prop where
  hg : g = w1.heap.size
  cA : w1.cell? ⟨gA, 0, none⟩ = some (.slice A a.length ca)
  cB : w1.cell? ⟨gB, 0, none⟩ = some (.slice B b.length cb)
  rA : Row w1 A (encells a)
  rB : Row w1 B (encells b)
  rN : Row w1 N (scells (differ a b))
/-- What the search holds on to. -/
structure Lk (w1 : World) (g gA gB : Nat) (N : Option Addr) (n cn : Nat) (W : World) (cnt : Nat) (v : Value) (F : List Bytes) : Prop where
  own : W.ownsRow (g + 4) 9 1 v F.length (scells F)
  cN : W.cell? ⟨g, 0, none⟩ = some (.slice N n cn)
  cF : W.cell? ⟨g + 1, 0, none⟩ = some v
  fF : W.frozen? ⟨g + 1, 0, none⟩ = false
  cE : W.cell? ⟨g + 2, 0, none⟩ = some (.int .i64 (cnt : Int))
  fE : W.frozen? ⟨g + 2, 0, none⟩ = false
  cX : W.cell? ⟨g + 3, 0, none⟩ = some (.func (.func 33) #[] #[.pointer (some ⟨g + 2, 0, none⟩), .pointer (some ⟨gA, 0, none⟩), .pointer (some ⟨gB, 0, none⟩), .pointer (some ⟨g + 1, 0, none⟩), .pointer (some ⟨g, 0, none⟩), .pointer (some ⟨g + 3, 0, none⟩)])
  bl : Below g w1 W
  sz : g + 4 ≤ W.heap.size
section
variable {w1 W W' : World} {g gA gB n cn cnt : Nat} {N : Option Addr} {v v' : Value} {F F' : List Bytes}
theorem Lk.below (h : Lk w1 g gA gB N n cn W cnt v F) (hb : Below W.heap.size W W') : Lk w1 g gA gB N n cn W' cnt v F := by
  have hs := h.sz
  exact ⟨own_below h.own hb, kept h.cN hb, kept h.cF hb, (hb.frozen (p := ⟨g + 1, 0, none⟩) (by show g + 1 < _; omega)).trans h.fF, kept h.cE hb, (hb.frozen (p := ⟨g + 2, 0, none⟩) (by show g + 2 < _; omega)).trans h.fE, kept h.cX hb, h.bl.trans (hb.mono (by omega)), Nat.le_trans hs hb.size⟩
theorem Lk.count (h : Lk w1 g gA gB N n cn W cnt v F) : Lk w1 g gA gB N n cn (W.setCell ⟨g + 2, 0, none⟩ (.int .i64 ((cnt : Int) + 1))) (cnt + 1) v F := by
  have hs := h.sz
  refine ⟨h.own.kept (grown_set W ⟨g + 2, 0, none⟩ _) (.inr fun e => ?_), (World.cell?_setCell_other W ⟨g + 2, 0, none⟩ ⟨g, 0, none⟩ _ (by simp)).trans h.cN, (World.cell?_setCell_other W ⟨g + 2, 0, none⟩ ⟨g + 1, 0, none⟩ _ (by simp)).trans h.cF, by rw [World.frozen?_setCell]; exact h.fF, ?_, by rw [World.frozen?_setCell]; exact h.fE, (World.cell?_setCell_other W ⟨g + 2, 0, none⟩ ⟨g + 3, 0, none⟩ _ (by simp)).trans h.cX, h.bl.setCell (p := ⟨g + 2, 0, none⟩) (by show g ≤ g + 2; omega) _, by simp [World.setCell]; exact hs⟩
  · have := (h.own.lt _ e).1
    simp at this
  · rw [World.cell?_setCell_same W ⟨g + 2, 0, none⟩ _ h.cE]
    simp
theorem Lk.add (h : Lk w1 g gA gB N n cn W cnt v F) (hg : W.grownBy W' v.ownBlock) (ho : W'.ownsRow (g + 4) 9 1 v' F'.length (scells F')) : Lk w1 g gA gB N n cn (W'.setCell ⟨g + 1, 0, none⟩ v') cnt v' F' := by
  have hs := h.sz
  have hf : ∀ k, k < g + 4 → some k ≠ v.ownBlock := fun k hk e => by have := (h.own.lt _ e.symm).1; omega
  have c1 : W'.cell? ⟨g + 1, 0, none⟩ = some v := hg.cell h.cF (hf _ (by show g + 1 < _; omega))
  refine ⟨ho.kept (grown_set W' ⟨g + 1, 0, none⟩ _) (.inr fun e => ?_), (World.cell?_setCell_other W' ⟨g + 1, 0, none⟩ ⟨g, 0, none⟩ _ (by simp)).trans (hg.cell h.cN (hf _ (by show g < _; omega))), World.cell?_setCell_same W' ⟨g + 1, 0, none⟩ _ c1, ?_, (World.cell?_setCell_other W' ⟨g + 1, 0, none⟩ ⟨g + 2, 0, none⟩ _ (by simp)).trans (hg.cell h.cE (hf _ (by show g + 2 < _; omega))), ?_, (World.cell?_setCell_other W' ⟨g + 1, 0, none⟩ ⟨g + 3, 0, none⟩ _ (by simp)).trans (hg.cell h.cX (hf _ (by show g + 3 < _; omega))), ?_, by simp [World.setCell]; exact Nat.le_trans hs hg.size⟩
  · have := (ho.lt _ e).1
    simp at this
  · rw [World.frozen?_setCell]; exact (hg.frozen_far ⟨g + 1, 0, none⟩ (by show g + 1 < _; omega) (hf _ (by show g + 1 < _; omega))).trans h.fF
  · rw [World.frozen?_setCell]; exact (hg.frozen_far ⟨g + 2, 0, none⟩ (by show g + 2 < _; omega) (hf _ (by show g + 2 < _; omega))).trans h.fE
  · exact (h.bl.grown hg (by omega) (fun k hk => by have := (h.own.lt k hk).1; omega)).setCell (p := ⟨g + 1, 0, none⟩) (by show g ≤ g + 1; omega) _
end
theorem LkBase.at_ {w1 W : World} {g gA gB : Nat} {A B N : Option Addr} {a b : List Ent} {ca cb cn : Nat} (h : LkBase w1 g gA gB A B N a b ca cb cn) (hb : Below g w1 W) :
    W.cell? ⟨gA, 0, none⟩ = some (.slice A a.length ca) ∧ W.cell? ⟨gB, 0, none⟩ = some (.slice B b.length cb) ∧ Row W A (encells a) ∧ Row W B (encells b) ∧ Row W N (scells (differ a b)) := by
  have hb' := hb
  rw [h.hg] at hb'
  exact ⟨kept h.cA hb', kept h.cB hb', h.rA.below hb', h.rB.below hb', h.rN.below hb'⟩

/-- Strings behind strings, whatever slice holds the second ones: the run itself. -/
theorem run_strs_any (w : World) (ty : TypeId) (base : Nat) (v : Value) (l : List Bytes) (hown : w.ownsRow base 9 1 v l.length (scells l))
    (B : Option Addr) (c : Nat) (r : List Bytes) (hB : Row w B (scells r)) (hsmall : (l.length + r.length) * 16 ≤ 140737488355328) (hbase : base ≤ w.heap.size) :
    ∃ v' w', (Builtin.append_ #[23, 23] ty #[v, .slice B r.length c]).run Try.prog w = .ok v' w' ∧ w'.ownsRow base 9 1 v' (l ++ r).length (scells (l ++ r)) ∧ w.grownBy w' v.ownBlock := by
  obtain ⟨i0, hi, hz0, hz1, hz2⟩ := str_info
  by_cases hr0 : r = []
  · subst hr0
    rw [List.append_nil]
    refine ⟨v, w, ?_, hown, World.grownBy.refl w _⟩
    rw [List.length_nil]
    rcases hown.2 with ⟨rfl, e0⟩ | ⟨g, cap, cur, rfl, _, _, hnc, _⟩
    · cases B <;> simp [Builtin.append_, run_underlying Try.underlying23, sizeOf, typeInfo, hi, Builtin.lenOf, Builtin.firstCells, loadCells, loadCellsFrom]
    · cases B <;> simp [Builtin.append_, run_underlying Try.underlying23, sizeOf, typeInfo, hi, Builtin.lenOf, Builtin.firstCells, loadCells, loadCellsFrom, hnc, storeCells]
  · have hpos : 0 < r.length := List.length_pos_iff.2 hr0
    obtain ⟨g, off, rfl, hc⟩ := hB (by rw [scells_length]; omega)
    obtain ⟨v', w', h1, h2, h3, -⟩ := run_append_own (P := Try.prog) (w := w) base 23 ty 9 i0 (.string ⟨#[]⟩) 1 16 Try.underlying23 hi hz0 hz1 hz2 rfl (by decide) v l.length (scells l) hown ⟨g, off, none⟩ r.length c (scells r) (by rw [scells_length]; omega)
      (fun j u hu => by
        obtain ⟨hj, rfl⟩ := List.getElem?_eq_some_iff.1 hu
        rw [Go.WideShapes.add_plain]
        exact hc j hj)
      (fun u hu => by obtain ⟨_, _, rfl⟩ := List.mem_map.1 hu; rfl) (by unfold maxLen; omega) hsmall hbase
    exact ⟨v', w', h1, by rw [scells_append, List.length_append]; exact h2, h3⟩
theorem step_strs_any {ops : Array Oper} {o : Oper} {a : Act} {w : World} {K : Act → World → Prop} {Q : Exit → Act → World → Prop} {E : Prop} (hgd : o.guard = none) (s x : Operand)
    (ho : o.op = .call { callee := .builtin .append, args := #[s, x], argTypes := #[23, 23] })
    (base : Nat) (v : Value) (l : List Bytes) (hs : a.eval s = v) (hown : w.ownsRow base 9 1 v l.length (scells l))
    (B : Option Addr) (c : Nat) (r : List Bytes) (hx : a.eval x = .slice B r.length c) (hB : Row w B (scells r)) (hsmall : (l.length + r.length) * 16 ≤ 140737488355328) (hbase : base ≤ w.heap.size)
    (h : ∀ v' w', w'.ownsRow base 9 1 v' (l ++ r).length (scells (l ++ r)) → w.grownBy w' v.ownBlock → K (a.put o.dst v') w') :
    if Region.wanted o (yielded ops a.tmps) = true then Oper.wp Try.prog o a w K Q else E := by
  have hw : Region.wanted o (yielded ops a.tmps) = true := by simp [Region.wanted, hgd]
  rw [if_pos hw]
  obtain ⟨v', w', hrun, h1, h2⟩ := run_strs_any w o.type base v l hown B c r hB hsmall hbase
  unfold Oper.wp
  simp [execOp, ho, resolve, invoke, builtin, hs, hx, hrun, Result.andThen]
  exact h v' w' h1 h2
/-- A function without results. -/
theorem results_none {fn : Func} (h : fn.results = #[]) (tmps : Array Value) (P : Program) (w : World) : (results fn tmps).run P w = .ok (.tuple #[]) w := by
  simp [results, h]
theorem bits_pre {p : Bytes} (hb : p.all Bin.bitByte = true) (hl : p.length ≤ 16) : goodPre p = true := by
  unfold goodPre
  rw [hb, decide_eq_true hl]
  rfl

section
variable {w1 : World} {g gA gB : Nat} {A B N : Option Addr} {a b : List Ent} {ca cb cn : Nat}
set_option maxHeartbeats 800000 in
theorem look_same (HB : LkBase w1 g gA gB A B N a b ca cb cn) (ha : Good a) (hb : Good b) (p : Bytes) (W : World) (cnt : Nat) (v : Value) (F : List Bytes) (hp : goodPre p = true) (hc : cnt ≤ 1000000) (he : prefMark a p = prefMark b p) (h : Lk w1 g gA gB N (differ a b).length cn W cnt v F) :
    Calls Try.prog 33 #[.string (S p), .pointer (some ⟨g + 2, 0, none⟩), .pointer (some ⟨gA, 0, none⟩), .pointer (some ⟨gB, 0, none⟩), .pointer (some ⟨g + 1, 0, none⟩), .pointer (some ⟨g, 0, none⟩), .pointer (some ⟨g + 3, 0, none⟩)] W fun e W' => e = .returned (.tuple #[]) ∧ Lk w1 g gA gB N (differ a b).length cn W' (cnt + 1) v F := by
  have hS := fun (w : World) hA hB => Lib.hid (sameHash A B ca cb a b p w ha hb hp hA hB true (decide_eq_true he))
  have h1 := h.count
  obtain ⟨cA, cB, rA, rB, rN⟩ := HB.at_ h1.bl
  have cE := h.cE
  have fE := h.fE
  clear HB ha hb hp he h rN
  go_enter Try.func33, Try.ntmps33
  go_wp2_with fail
  refine (hS _ rA rB).out.mono ?_
  rintro e w2 ⟨rfl, hb2⟩
  have h2 := h1.below hb2
  clear hS h1 hb2 cA cB rA rB cE fE
  go_wp2_with fail
  exact bodyPost_ret (v := .tuple #[]) (results_none rfl _ _ _) rfl ⟨rfl, h2⟩

set_option maxHeartbeats 2000000 in
theorem look_deep (HB : LkBase w1 g gA gB A B N a b ca cb cn) (ha : Good a) (hb : Good b) (hd : (differ a b).length ≤ 48) (hdn : ∀ n ∈ differ a b, Bin.name n = true) (p : Bytes) (W : World) (cnt : Nat) (v : Value) (F : List Bytes) (hp : goodPre p = true) (hl : p.length = 16) (hc : cnt ≤ 1000000) (hF : F.length ≤ 48 * cnt) (he : ¬ prefMark a p = prefMark b p) (h : Lk w1 g gA gB N (differ a b).length cn W cnt v F) :
    Calls Try.prog 33 #[.string (S p), .pointer (some ⟨g + 2, 0, none⟩), .pointer (some ⟨gA, 0, none⟩), .pointer (some ⟨gB, 0, none⟩), .pointer (some ⟨g + 1, 0, none⟩), .pointer (some ⟨g, 0, none⟩), .pointer (some ⟨g + 3, 0, none⟩)] W fun e W' => e = .returned (.tuple #[]) ∧ ∃ v', Lk w1 g gA gB N (differ a b).length cn W' (cnt + 1) v' (F ++ (differ a b).filter fun n => Bin.of n == p) := by
  have hS := fun (w : World) hA hB => Lib.hid (sameHash A B ca cb a b p w ha hb hp hA hB false (decide_eq_false he))
  have hP := fun (w : World) hN => Lib.hid (pathNames N cn (differ a b) p w (by omega) hdn hN)
  have hr : ((differ a b).filter fun n => Bin.of n == p).length ≤ 48 := Nat.le_trans (List.length_filter_le _ _) hd
  have h1 := h.count
  obtain ⟨cA, cB, rA, rB, -⟩ := HB.at_ h1.bl
  have HN : ∀ W, Below g w1 W → Row W N (scells (differ a b)) := fun W hb => (HB.at_ hb).2.2.2.2
  have cE := h.cE
  have fE := h.fE
  have hl1 : ((p.length : Int) == 16) = true := by rw [hl]; rfl
  clear HB ha hb hp he h hdn hd
  generalize (differ a b).filter (fun n => Bin.of n == p) = R at *
  generalize differ a b = ns at *
  go_enter Try.func33, Try.ntmps33
  go_wp2_with fail
  refine (hS _ rA rB).out.mono ?_
  rintro e w2 ⟨rfl, hb2⟩
  have h2 := h1.below hb2
  clear hS h1 hb2 cA cB rA rB cE fE
  have cN := h2.cN
  have cF := h2.cF
  have fF := h2.fF
  have rN := HN _ h2.bl
  have hs2 := h2.sz
  have hsm : (F.length + R.length) * 16 ≤ 140737488355328 := by omega
  go_wp2_with fail
  go_region_law (first
    | (refine step_strs_any rfl (.tmp 17) (.tmp 20) rfl (g + 4) v F ?_ hown3 D3 d3 R ?_ hr3 hsm hs3 ?_; (first | rfl | simp [Act.eval, Act.put]); (first | rfl | simp [Act.eval, Act.put]); intro v4 w4 hown4 hgrow4; obtain ⟨D4, d4, rfl⟩ := own_shape hown4; have cF4 := hF4 w4 hgrow4; have fF4 := hG4 w4 hgrow4; have h5 := h3.add hgrow4 hown4)
    | (go_simp; go_at_call 35; refine (hP _ ?_).out.mono ?_; exact rN.below (bdrew (Below.refl _ _)); rintro e w3 ⟨D3, d3, rfl, hr3', hb3'⟩; have hb3 := below_chain (bdrew (Below.refl _ w2)) hb3'; have h3 := h2.below hb3; have hr3 := Row.own hr3'; have hown3 := h3.own; have cF3 := h3.cF; have cN3 := h3.cN; have hs3 := h3.sz; have hF4 := fun w4 (hgrow4 : w3.grownBy w4 v.ownBlock) => hgrow4.cell h3.cF (fun e => by have := (h3.own.lt _ e.symm).1; simp at this); have hG4 := fun w4 (hgrow4 : w3.grownBy w4 v.ownBlock) => (hgrow4.frozen_far ⟨g + 1, 0, none⟩ (by show g + 1 < _; omega) (fun e => by have := (h3.own.lt _ e.symm).1; simp at this)).trans h3.fF))
  all_goals
    go_wp2_with fail
    rw [List.length_append] at h5
    exact bodyPost_ret (v := .tuple #[]) (results_none rfl _ _ _) rfl ⟨rfl, _, h5⟩

theorem visitsAt_le (a b : List Ent) (p : Bytes) (k : Nat) (h : p.length + k = 16) : visitsAt a b p + 1 ≤ 2 ^ (k + 1) := by
  unfold visitsAt
  have e : 16 - p.length = k := by omega
  rw [e]
  exact visits_le a b k p
/-- What the search is said to do at a prefix. -/
def LkDoes (w1 : World) (g gA gB : Nat) (N : Option Addr) (a b : List Ent) (cn k : Nat) : Prop :=
  ∀ (p : Bytes) (W : World) (cnt : Nat) (v : Value) (F : List Bytes), p.length + k = 16 → p.all Bin.bitByte = true → cnt + 2 ^ (k + 1) ≤ 1000000 → F.length ≤ 48 * cnt → Lk w1 g gA gB N (differ a b).length cn W cnt v F →
    Calls Try.prog 33 #[.string (S p), .pointer (some ⟨g + 2, 0, none⟩), .pointer (some ⟨gA, 0, none⟩), .pointer (some ⟨gB, 0, none⟩), .pointer (some ⟨g + 1, 0, none⟩), .pointer (some ⟨g, 0, none⟩), .pointer (some ⟨g + 3, 0, none⟩)] W
      fun e W' => e = .returned (.tuple #[]) ∧ ∃ v', Lk w1 g gA gB N (differ a b).length cn W' (cnt + visitsAt a b p) v' (F ++ foundAt a b p)

set_option maxHeartbeats 2000000 in
theorem look_more (HB : LkBase w1 g gA gB A B N a b ca cb cn) (ha : Good a) (hb : Good b) (hd : (differ a b).length ≤ 48) (k : Nat) (ih : LkDoes w1 g gA gB N a b cn k) (p : Bytes) (W : World) (cnt : Nat) (v : Value) (F : List Bytes) (hl : p.length + (k + 1) = 16) (hbits : p.all Bin.bitByte = true) (hc : cnt + 2 ^ (k + 1 + 1) ≤ 1000000) (hF : F.length ≤ 48 * cnt) (he : ¬ prefMark a p = prefMark b p) (h : Lk w1 g gA gB N (differ a b).length cn W cnt v F) :
    Calls Try.prog 33 #[.string (S p), .pointer (some ⟨g + 2, 0, none⟩), .pointer (some ⟨gA, 0, none⟩), .pointer (some ⟨gB, 0, none⟩), .pointer (some ⟨g + 1, 0, none⟩), .pointer (some ⟨g, 0, none⟩), .pointer (some ⟨g + 3, 0, none⟩)] W fun e W' => e = .returned (.tuple #[]) ∧ ∃ v', Lk w1 g gA gB N (differ a b).length cn W' (cnt + visitsAt a b p) v' (F ++ foundAt a b p) := by
  have hS := fun (w : World) hA hB => Lib.hid (sameHash A B ca cb a b p w ha hb (bits_pre hbits (by omega)) hA hB false (decide_eq_false he))
  have h1 := h.count
  obtain ⟨cA, cB, rA, rB, -⟩ := HB.at_ h1.bl
  have cE := h.cE
  have fE := h.fE
  have hl1 : ((p.length : Int) == 16) = false := beq_eq_false_iff_ne.2 (by omega)
  have hpow : 2 ^ (k + 1 + 1) = 2 * 2 ^ (k + 1) := by rw [Nat.pow_succ]; omega
  have hpos : 0 < 2 ^ (k + 1) := Nat.pow_pos (by decide)
  have hcnt : cnt ≤ 1000000 := by omega
  have e0 : (p ++ [48]).length + k = 16 := by rw [List.length_append, List.length_singleton]; omega
  have e1 : (p ++ [49]).length + k = 16 := by rw [List.length_append, List.length_singleton]; omega
  have b0 : (p ++ [48]).all Bin.bitByte = true := by rw [List.all_append, hbits]; rfl
  have b1 : (p ++ [49]).all Bin.bitByte = true := by rw [List.all_append, hbits]; rfl
  obtain ⟨hv, hf⟩ := visitsAt_more a b p he (by omega)
  have hv0 := visitsAt_le a b (p ++ [48]) k e0
  have hf0 := foundAt_le a b (p ++ [48])
  have hm0 : (differ a b).length * visitsAt a b (p ++ [48]) ≤ 48 * visitsAt a b (p ++ [48]) := Nat.mul_le_mul_right _ hd
  have i0 := fun W h => Lib.hid (ih (p ++ [48]) W (cnt + 1) v F e0 b0 (by omega) (by omega) h)
  have i1 := fun W v' h => Lib.hid (ih (p ++ [49]) W (cnt + 1 + visitsAt a b (p ++ [48])) v' (F ++ foundAt a b (p ++ [48])) e1 b1 (by omega) (by rw [List.length_append]; omega) h)
  rw [hv, hf]
  have hp15 : p.length ≤ 15 := by omega
  clear HB ha hb he h ih hbits hl hpow hpos hc e0 e1 b0 b1 hv hf hv0 hf0 hm0 hd hF
  generalize differ a b = ns at *
  generalize visitsAt a b (p ++ [48]) = x0 at *
  generalize visitsAt a b (p ++ [49]) = x1 at *
  generalize foundAt a b (p ++ [48]) = y0 at *
  generalize foundAt a b (p ++ [49]) = y1 at *
  go_enter Try.func33, Try.ntmps33
  go_wp2_with fail
  refine (hS _ rA rB).out.mono ?_
  rintro e w2 ⟨rfl, hb2⟩
  have h2 := h1.below hb2
  clear hS h1 hb2 cA cB rA rB cE fE
  have cX := h2.cX
  go_wp2_with fail
  refine (i0 _ h2).out.mono ?_
  rintro e w3 ⟨rfl, v3, h3⟩
  have cX3 := h3.cX
  clear h2 cX i0
  go_wp2_with fail
  refine (i1 _ _ h3).out.mono ?_
  rintro e w4 ⟨rfl, v4, h4⟩
  clear h3 cX3 i1
  go_wp2_with fail
  have e4 : cnt + 1 + x0 + x1 = cnt + (1 + (x0 + x1)) := by omega
  rw [List.append_assoc, e4] at h4
  exact bodyPost_end (v := .tuple #[]) (results_none rfl _ _ _) rfl ⟨rfl, v4, h4⟩

theorem look_does (HB : LkBase w1 g gA gB A B N a b ca cb cn) (ha : Good a) (hb : Good b) (hd : (differ a b).length ≤ 48) (hdn : ∀ n ∈ differ a b, Bin.name n = true) (k : Nat) : LkDoes w1 g gA gB N a b cn k := by
  induction k with
  | zero =>
    intro p W cnt v F hl hbits hc hF h
    have hg := bits_pre hbits (by omega)
    have hc' : cnt ≤ 1000000 := by omega
    by_cases he : prefMark a p = prefMark b p
    · obtain ⟨hv, hf⟩ := visitsAt_same a b p he
      rw [hv, hf, List.append_nil]
      exact (look_same HB ha hb p W cnt v F hg hc' he h).mono fun e w' k => ⟨k.1, v, k.2⟩
    · obtain ⟨hv, hf⟩ := visitsAt_deep a b p he (by omega)
      rw [hv, hf]
      exact look_deep HB ha hb hd hdn p W cnt v F hg (by omega) hc' hF he h
  | succ k ih =>
    intro p W cnt v F hl hbits hc hF h
    by_cases he : prefMark a p = prefMark b p
    · obtain ⟨hv, hf⟩ := visitsAt_same a b p he
      rw [hv, hf, List.append_nil]
      exact (look_same HB ha hb p W cnt v F (bits_pre hbits (by omega)) (Nat.le_trans (Nat.le_add_right _ _) hc) he h).mono fun e w' k => ⟨k.1, v, k.2⟩
    · exact look_more HB ha hb hd k ih p W cnt v F hl hbits hc hF he h
end
end Go.Proofs.Ytmmmolbejfdamaa
