/- package change: sameHash returns whether a prefix has one hash in two books; onPath returns the names that have a path. They write nothing that was there. -/
import Derived.Test.YtmmmolbejfdamaaRefDiffer
import Derived.Test.YtmmmolbejfdamaaTreeAt
import Derived.Test.YtmmmolbejfdamaaLook
import Derived.Test.YtmmmolbejfdamaaMapS
import Derived.Deep.RegionLaw
import Derived.Test.YtmmmolbejfdamaaChangeDiff
import Derived.Laws.EntriesVeiled
namespace Go.Proofs.Ytmmmolbejfdamaa
set_option maxRecDepth 100000
open Go.RowKit

set_option maxHeartbeats 400000 in
theorem sameHash (A B : Option Addr) (c d : Nat) (a b : List Ent) (q : Bytes) (w : World) (ha : Good a) (hb : Good b) (hq : goodPre q = true) (hA : Row w A (encells a)) (hB : Row w B (encells b)) (r : Bool) (hr : decide (prefMark a q = prefMark b q) = r) :
    Calls Try.prog 34 #[.slice A a.length c, .slice B b.length d, .string (S q)] w fun e w' => e = .returned (.bool r) ∧ Below w.heap.size w w' := by
  have h1 := fun (w : World) hA => Lib.hid (treeAt_yes A c a q w ha hq hA _ rfl)
  have h2 := fun (w : World) hB => Lib.hid (treeAt_yes B d b q w hb hq hB _ rfl)
  have hc : ((prefMark a q : Int) == (prefMark b q : Int)) = r := by
    rw [← hr]
    by_cases e : prefMark a q = prefMark b q
    · rw [e, decide_eq_true rfl, beq_self_eq_true]
    · rw [decide_eq_false e]
      exact beq_eq_false_iff_ne.2 (by omega)
  clear hr hq ha hb
  generalize prefMark a q = x at *
  generalize prefMark b q = y at *
  go_enter Try.func34, Try.ntmps34
  go_wp2_with fail
  refine (h1 _ hA).out.mono ?_
  rintro e w1 ⟨rfl, hb1⟩
  go_wp2_with fail
  refine (h2 _ (hB.below hb1)).out.mono ?_
  rintro e w2 ⟨rfl, hb2⟩
  have hb02 := below_chain hb1 hb2
  clear h1 h2 hA hB hb1 hb2
  go_wp2
  go_ret
  exact ⟨by rw [← hc]; rfl, hb02⟩

set_option maxHeartbeats 800000 in
theorem pathNames (A : Option Addr) (c : Nat) (ss : List Bytes) (p : Bytes) (w : World) (hm : ss.length ≤ 1000) (hs : ∀ s ∈ ss, Bin.name s = true) (hA : Row w A (scells ss)) :
    Calls Try.prog 35 #[.slice A ss.length c, .string (S p)] w (OwnGives (ss.filter fun n => Bin.of n == p) w) := by
  have HF0 : ∀ k, (h : k < ss.length) → Hid ((ss.take (k + 1)).filter (fun n => Bin.of n == p) = (ss.take k).filter (fun n => Bin.of n == p) ++ if (Bin.of ss[k] == p) = true then [ss[k]] else []) := fun k h => filter_step ss _ k h
  have HT : Hid ((ss.take ss.length).filter (fun n => Bin.of n == p) = ss.filter fun n => Bin.of n == p) := by show _ = _; rw [List.take_length]
  have HS := Lib.hid hs
  clear hs
  generalize (ss.filter fun n => Bin.of n == p) = T at *
  go_enter Try.func35, Try.ntmps35
  go_wp2
  go_loopw [5, 12] (fun v i wr => ∃ (k : Nat) (L : List Bytes), k ≤ ss.length ∧ i = .int .i64 k ∧ Hid ((ss.take k).filter (fun n => Bin.of n == p) = L) ∧ L.length ≤ k ∧ wr.ownsRow w.heap.size 9 1 v L.length (scells L) ∧ Below w.heap.size w wr) (fun _ i _ => ss.length - (intOf i).toNat)
  case atStart => exact ⟨0, [], Nat.zero_le _, rfl, rfl, Nat.le_refl _, World.ownsRow_nil _ _ _ _, Below.refl _ _⟩
  case round =>
    obtain ⟨k, L, hk, rfl, HL0, hLk, hown, hbl⟩ := hrel
    have hsz := hbl.size
    obtain ⟨D, e0, rfl⟩ := own_shape hown
    by_cases hlt : k < ss.length
    · obtain ⟨g, off, rfl, h1⟩ := (hA.below hbl).strD k hlt
      have hi0 : (0 : Int) ≤ (k : Int) := by omega
      have hi1 : (k : Int) < (ss.length : Int) := by omega
      have HM := HF0 k hlt
      rw [HL0.out] at HM
      have hO := fun w => Lib.hid (pathOf_yes ss[k] w (HS.out _ (List.getElem_mem hlt)))
      clear HF0 HT HL0 HS hA
      generalize ss[k] = s at *
      cases hc : Bin.of s == p with
      | true =>
        rw [hc, if_pos rfl] at HM
        generalize Bin.of s = q at *
        go_wp2_with fail
        refine (hO _).out.mono ?_
        rintro e w2 ⟨rfl, hb2⟩
        have hb02 := below_chain hbl hb2
        have hown2 := own_below hown hb2
        have hs02 := hb02.size
        clear hO hb2 hown hbl h1
        go_wp2_with (at_builtin; refine app_strs _ rfl _ _ rfl w.heap.size _ L rfl (hown2.alloc _) ⟨w2.heap.size, 0, none⟩ 1 [s] 1 rfl rfl (str_one w2 s _) (by simp; omega) (by simp; omega) ?_; intro v3 w3 hown3 hgrow3)
        have hb3 : Below w.heap.size w w3 := (hb02.alloc hs02 (.cells #[.string (S s)] 9)).grown hgrow3 (by simp; omega) (fun j hj => ((hown2.alloc (.cells #[.string (S s)] 9)).lt j hj).1)
        go_roundw
        case rel => exact ⟨k + 1, L ++ [s], by omega, by go_num, HM, by simp; omega, hown3, hb3⟩
        case measure => simp [intOf]; omega
      | false =>
        rw [hc, if_neg (by simp), List.append_nil] at HM
        generalize Bin.of s = q at *
        go_wp2_with fail
        refine (hO _).out.mono ?_
        rintro e w2 ⟨rfl, hb2⟩
        have hb02 := below_chain hbl hb2
        have hown2 := own_below hown hb2
        clear hO hb2 hown hbl h1
        go_wp2
        go_roundw
        case rel => exact ⟨k + 1, L, by omega, by go_num, HM, by omega, hown2, hb02⟩
        case measure => simp [intOf]; omega
    · obtain rfl : k = ss.length := by omega
      have HF : Hid (T = L) := by
        show T = L
        rw [← HT.out, HL0.out]
      clear HF0 HT HL0 HS
      go_wp2
      go_ret
      rw [HF.out]
      exact ⟨D, e0, rfl, hown, hbl⟩
end Go.Proofs.Ytmmmolbejfdamaa
/- package change: the search that Look makes, a function that calls itself: it counts the prefixes examined and adds the names found. It writes into the two variables of Look that count and collect, and into nothing else that was there. -/
namespace Go.Proofs.Ytmmmolbejfdamaa
set_option maxRecDepth 100000
open Go.RowKit

/-- What is known of the books and the names ahead of the search. -/
structure LkBase (w1 : World) (g gA gB : Nat) (A B N : Option Addr) (a b : List Ent) (ca cb cn : Nat) : Prop where
  hg : g = w1.heap.size
  cA : w1.cell? ⟨gA, 0, none⟩ = some (.slice A a.length ca)
  cB : w1.cell? ⟨gB, 0, none⟩ = some (.slice B b.length cb)
  rA : Row w1 A (encells a)
  rB : Row w1 B (encells b)
  rN : Row w1 N (scells (differ a b))
/-- What the search holds on to. -/
structure Lk (w1 : World) (g gA gB : Nat) (N : Option Addr) (n cn : Nat) (W : World) (cnt : Nat) (v : Value) (F : List Bytes) : Prop where
  own : W.ownsRow (g + 4) 9 1 v F.length (scells F)
  cN : W.cell? ⟨g, 0, none⟩ = some (.slice N n cn)
  cF : W.cell? ⟨g + 1, 0, none⟩ = some v
  fF : W.frozen? ⟨g + 1, 0, none⟩ = false
  cE : W.cell? ⟨g + 2, 0, none⟩ = some (.int .i64 (cnt : Int))
  fE : W.frozen? ⟨g + 2, 0, none⟩ = false
  cX : W.cell? ⟨g + 3, 0, none⟩ = some (.func (.func 33) #[] #[.pointer (some ⟨g + 2, 0, none⟩), .pointer (some ⟨gA, 0, none⟩), .pointer (some ⟨gB, 0, none⟩), .pointer (some ⟨g + 1, 0, none⟩), .pointer (some ⟨g, 0, none⟩), .pointer (some ⟨g + 3, 0, none⟩)])
  bl : Below g w1 W
  sz : g + 4 ≤ W.heap.size
section
variable {w1 W W' : World} {g gA gB n cn cnt : Nat} {N : Option Addr} {v v' : Value} {F F' : List Bytes}
theorem Lk.below (h : Lk w1 g gA gB N n cn W cnt v F) (hb : Below W.heap.size W W') : Lk w1 g gA gB N n cn W' cnt v F := by
  have hs := h.sz
  exact ⟨own_below h.own hb, kept h.cN hb, kept h.cF hb, (hb.frozen (p := ⟨g + 1, 0, none⟩) (by show g + 1 < _; omega)).trans h.fF, kept h.cE hb, (hb.frozen (p := ⟨g + 2, 0, none⟩) (by show g + 2 < _; omega)).trans h.fE, kept h.cX hb, h.bl.trans (hb.mono (by omega)), Nat.le_trans hs hb.size⟩
theorem Lk.count (h : Lk w1 g gA gB N n cn W cnt v F) : Lk w1 g gA gB N n cn (W.setCell ⟨g + 2, 0, none⟩ (.int .i64 ((cnt : Int) + 1))) (cnt + 1) v F := by
  have hs := h.sz
  refine ⟨h.own.kept (grown_set W ⟨g + 2, 0, none⟩ _) (.inr fun e => ?_), (World.cell?_setCell_other W ⟨g + 2, 0, none⟩ ⟨g, 0, none⟩ _ (by simp)).trans h.cN, (World.cell?_setCell_other W ⟨g + 2, 0, none⟩ ⟨g + 1, 0, none⟩ _ (by simp)).trans h.cF, by rw [World.frozen?_setCell]; exact h.fF, ?_, by rw [World.frozen?_setCell]; exact h.fE, (World.cell?_setCell_other W ⟨g + 2, 0, none⟩ ⟨g + 3, 0, none⟩ _ (by simp)).trans h.cX, h.bl.setCell (p := ⟨g + 2, 0, none⟩) (by show g ≤ g + 2; omega) _, by simp [World.setCell]; exact hs⟩
  · have := (h.own.lt _ e).1
    simp at this
  · rw [World.cell?_setCell_same W ⟨g + 2, 0, none⟩ _ h.cE]
    simp
theorem Lk.add (h : Lk w1 g gA gB N n cn W cnt v F) (hg : W.grownBy W' v.ownBlock) (ho : W'.ownsRow (g + 4) 9 1 v' F'.length (scells F')) : Lk w1 g gA gB N n cn (W'.setCell ⟨g + 1, 0, none⟩ v') cnt v' F' := by
  have hs := h.sz
  have hf : ∀ k, k < g + 4 → some k ≠ v.ownBlock := fun k hk e => by have := (h.own.lt _ e.symm).1; omega
  have c1 : W'.cell? ⟨g + 1, 0, none⟩ = some v := hg.cell h.cF (hf _ (by show g + 1 < _; omega))
  refine ⟨ho.kept (grown_set W' ⟨g + 1, 0, none⟩ _) (.inr fun e => ?_), (World.cell?_setCell_other W' ⟨g + 1, 0, none⟩ ⟨g, 0, none⟩ _ (by simp)).trans (hg.cell h.cN (hf _ (by show g < _; omega))), World.cell?_setCell_same W' ⟨g + 1, 0, none⟩ _ c1, ?_, (World.cell?_setCell_other W' ⟨g + 1, 0, none⟩ ⟨g + 2, 0, none⟩ _ (by simp)).trans (hg.cell h.cE (hf _ (by show g + 2 < _; omega))), ?_, (World.cell?_setCell_other W' ⟨g + 1, 0, none⟩ ⟨g + 3, 0, none⟩ _ (by simp)).trans (hg.cell h.cX (hf _ (by show g + 3 < _; omega))), ?_, by simp [World.setCell]; exact Nat.le_trans hs hg.size⟩
  · have := (ho.lt _ e).1
    simp at this
  · rw [World.frozen?_setCell]; exact (hg.frozen_far ⟨g + 1, 0, none⟩ (by show g + 1 < _; omega) (hf _ (by show g + 1 < _; omega))).trans h.fF
  · rw [World.frozen?_setCell]; exact (hg.frozen_far ⟨g + 2, 0, none⟩ (by show g + 2 < _; omega) (hf _ (by show g + 2 < _; omega))).trans h.fE
  · exact (h.bl.grown hg (by omega) (fun k hk => by have := (h.own.lt k hk).1; omega)).setCell (p := ⟨g + 1, 0, none⟩) (by show g ≤ g + 1; omega) _
end
theorem LkBase.at_ {w1 W : World} {g gA gB : Nat} {A B N : Option Addr} {a b : List Ent} {ca cb cn : Nat} (h : LkBase w1 g gA gB A B N a b ca cb cn) (hb : Below g w1 W) :
    W.cell? ⟨gA, 0, none⟩ = some (.slice A a.length ca) ∧ W.cell? ⟨gB, 0, none⟩ = some (.slice B b.length cb) ∧ Row W A (encells a) ∧ Row W B (encells b) ∧ Row W N (scells (differ a b)) := by
  have hb' := hb
  rw [h.hg] at hb'
  exact ⟨kept h.cA hb', kept h.cB hb', h.rA.below hb', h.rB.below hb', h.rN.below hb'⟩

/-- Strings behind strings, whatever slice holds the second ones: the run itself. -/
theorem run_strs_any (w : World) (ty : TypeId) (base : Nat) (v : Value) (l : List Bytes) (hown : w.ownsRow base 9 1 v l.length (scells l))
    (B : Option Addr) (c : Nat) (r : List Bytes) (hB : Row w B (scells r)) (hsmall : (l.length + r.length) * 16 ≤ 140737488355328) (hbase : base ≤ w.heap.size) :
    ∃ v' w', (Builtin.append_ #[23, 23] ty #[v, .slice B r.length c]).run Try.prog w = .ok v' w' ∧ w'.ownsRow base 9 1 v' (l ++ r).length (scells (l ++ r)) ∧ w.grownBy w' v.ownBlock := by
  obtain ⟨i0, hi, hz0, hz1, hz2⟩ := str_info
  by_cases hr0 : r = []
  · subst hr0
    rw [List.append_nil]
    refine ⟨v, w, ?_, hown, World.grownBy.refl w _⟩
    rw [List.length_nil]
    rcases hown.2 with ⟨rfl, e0⟩ | ⟨g, cap, cur, rfl, _, _, hnc, _⟩
    · cases B <;> simp [Builtin.append_, run_underlying Try.underlying23, sizeOf, typeInfo, hi, Builtin.lenOf, Builtin.firstCells, loadCells, loadCellsFrom]
    · cases B <;> simp [Builtin.append_, run_underlying Try.underlying23, sizeOf, typeInfo, hi, Builtin.lenOf, Builtin.firstCells, loadCells, loadCellsFrom, hnc, storeCells]
  · have hpos : 0 < r.length := List.length_pos_iff.2 hr0
    obtain ⟨g, off, rfl, hc⟩ := hB (by rw [scells_length]; omega)
    obtain ⟨v', w', h1, h2, h3, -⟩ := run_append_own (P := Try.prog) (w := w) base 23 ty 9 i0 (.string ⟨#[]⟩) 1 16 Try.underlying23 hi hz0 hz1 hz2 rfl (by decide) v l.length (scells l) hown ⟨g, off, none⟩ r.length c (scells r) (by rw [scells_length]; omega)
      (fun j u hu => by
        obtain ⟨hj, rfl⟩ := List.getElem?_eq_some_iff.1 hu
        rw [Go.WideShapes.add_plain]
        exact hc j hj)
      (fun u hu => by obtain ⟨_, _, rfl⟩ := List.mem_map.1 hu; rfl) (by unfold maxLen; omega) hsmall hbase
    exact ⟨v', w', h1, by rw [scells_append, List.length_append]; exact h2, h3⟩
theorem step_strs_any {ops : Array Oper} {o : Oper} {a : Act} {w : World} {K : Act → World → Prop} {Q : Exit → Act → World → Prop} {E : Prop} (hgd : o.guard = none) (s x : Operand)
    (ho : o.op = .call { callee := .builtin .append, args := #[s, x], argTypes := #[23, 23] })
    (base : Nat) (v : Value) (l : List Bytes) (hs : a.eval s = v) (hown : w.ownsRow base 9 1 v l.length (scells l))
    (B : Option Addr) (c : Nat) (r : List Bytes) (hx : a.eval x = .slice B r.length c) (hB : Row w B (scells r)) (hsmall : (l.length + r.length) * 16 ≤ 140737488355328) (hbase : base ≤ w.heap.size)
    (h : ∀ v' w', w'.ownsRow base 9 1 v' (l ++ r).length (scells (l ++ r)) → w.grownBy w' v.ownBlock → K (a.put o.dst v') w') :
    if Region.wanted o (yielded ops a.tmps) = true then Oper.wp Try.prog o a w K Q else E := by
  have hw : Region.wanted o (yielded ops a.tmps) = true := by simp [Region.wanted, hgd]
  rw [if_pos hw]
  obtain ⟨v', w', hrun, h1, h2⟩ := run_strs_any w o.type base v l hown B c r hB hsmall hbase
  unfold Oper.wp
  simp [execOp, ho, resolve, invoke, builtin, hs, hx, hrun, Result.andThen]
  exact h v' w' h1 h2
/-- A function without results. -/
theorem results_none {fn : Func} (h : fn.results = #[]) (tmps : Array Value) (P : Program) (w : World) : (results fn tmps).run P w = .ok (.tuple #[]) w := by
  simp [results, h]
theorem bits_pre {p : Bytes} (hb : p.all Bin.bitByte = true) (hl : p.length ≤ 16) : goodPre p = true := by
  unfold goodPre
  rw [hb, decide_eq_true hl]
  rfl

section
variable {w1 : World} {g gA gB : Nat} {A B N : Option Addr} {a b : List Ent} {ca cb cn : Nat}
set_option maxHeartbeats 800000 in
theorem look_same (HB : LkBase w1 g gA gB A B N a b ca cb cn) (ha : Good a) (hb : Good b) (p : Bytes) (W : World) (cnt : Nat) (v : Value) (F : List Bytes) (hp : goodPre p = true) (hc : cnt ≤ 1000000) (he : prefMark a p = prefMark b p) (h : Lk w1 g gA gB N (differ a b).length cn W cnt v F) :
    Calls Try.prog 33 #[.string (S p), .pointer (some ⟨g + 2, 0, none⟩), .pointer (some ⟨gA, 0, none⟩), .pointer (some ⟨gB, 0, none⟩), .pointer (some ⟨g + 1, 0, none⟩), .pointer (some ⟨g, 0, none⟩), .pointer (some ⟨g + 3, 0, none⟩)] W fun e W' => e = .returned (.tuple #[]) ∧ Lk w1 g gA gB N (differ a b).length cn W' (cnt + 1) v F := by
  have hS := fun (w : World) hA hB => Lib.hid (sameHash A B ca cb a b p w ha hb hp hA hB true (decide_eq_true he))
  have h1 := h.count
  obtain ⟨cA, cB, rA, rB, rN⟩ := HB.at_ h1.bl
  have cE := h.cE
  have fE := h.fE
  clear HB ha hb hp he h rN
  go_enter Try.func33, Try.ntmps33
  go_wp2_with fail
  refine (hS _ rA rB).out.mono ?_
  rintro e w2 ⟨rfl, hb2⟩
  have h2 := h1.below hb2
  clear hS h1 hb2 cA cB rA rB cE fE
  go_wp2_with fail
  exact bodyPost_ret (v := .tuple #[]) (results_none rfl _ _ _) rfl ⟨rfl, h2⟩

set_option maxHeartbeats 2000000 in
theorem look_deep (HB : LkBase w1 g gA gB A B N a b ca cb cn) (ha : Good a) (hb : Good b) (hd : (differ a b).length ≤ 48) (hdn : ∀ n ∈ differ a b, Bin.name n = true) (p : Bytes) (W : World) (cnt : Nat) (v : Value) (F : List Bytes) (hp : goodPre p = true) (hl : p.length = 16) (hc : cnt ≤ 1000000) (hF : F.length ≤ 48 * cnt) (he : ¬ prefMark a p = prefMark b p) (h : Lk w1 g gA gB N (differ a b).length cn W cnt v F) :
    Calls Try.prog 33 #[.string (S p), .pointer (some ⟨g + 2, 0, none⟩), .pointer (some ⟨gA, 0, none⟩), .pointer (some ⟨gB, 0, none⟩), .pointer (some ⟨g + 1, 0, none⟩), .pointer (some ⟨g, 0, none⟩), .pointer (some ⟨g + 3, 0, none⟩)] W fun e W' => e = .returned (.tuple #[]) ∧ ∃ v', Lk w1 g gA gB N (differ a b).length cn W' (cnt + 1) v' (F ++ (differ a b).filter fun n => Bin.of n == p) := by
  have hS := fun (w : World) hA hB => Lib.hid (sameHash A B ca cb a b p w ha hb hp hA hB false (decide_eq_false he))
  have hP := fun (w : World) hN => Lib.hid (pathNames N cn (differ a b) p w (by omega) hdn hN)
  have hr : ((differ a b).filter fun n => Bin.of n == p).length ≤ 48 := Nat.le_trans (List.length_filter_le _ _) hd
  have h1 := h.count
  obtain ⟨cA, cB, rA, rB, -⟩ := HB.at_ h1.bl
  have HN : ∀ W, Below g w1 W → Row W N (scells (differ a b)) := fun W hb => (HB.at_ hb).2.2.2.2
  have cE := h.cE
  have fE := h.fE
  have hl1 : ((p.length : Int) == 16) = true := by rw [hl]; rfl
  clear HB ha hb hp he h hdn hd
  generalize (differ a b).filter (fun n => Bin.of n == p) = R at *
  generalize differ a b = ns at *
  go_enter Try.func33, Try.ntmps33
  go_wp2_with fail
  refine (hS _ rA rB).out.mono ?_
  rintro e w2 ⟨rfl, hb2⟩
  have h2 := h1.below hb2
  clear hS h1 hb2 cA cB rA rB cE fE
  have cN := h2.cN
  have cF := h2.cF
  have fF := h2.fF
  have rN := HN _ h2.bl
  have hs2 := h2.sz
  have hsm : (F.length + R.length) * 16 ≤ 140737488355328 := by omega
  go_wp2_with fail
  go_region_law (first
    | (refine step_strs_any rfl (.tmp 17) (.tmp 20) rfl (g + 4) v F ?_ hown3 D3 d3 R ?_ hr3 hsm hs3 ?_; (first | rfl | simp [Act.eval, Act.put]); (first | rfl | simp [Act.eval, Act.put]); intro v4 w4 hown4 hgrow4; obtain ⟨D4, d4, rfl⟩ := own_shape hown4; have cF4 := hF4 w4 hgrow4; have fF4 := hG4 w4 hgrow4; have h5 := h3.add hgrow4 hown4)
    | (go_simp; go_at_call 35; refine (hP _ ?_).out.mono ?_; exact rN.below (bdrew (Below.refl _ _)); rintro e w3 ⟨D3, d3, rfl, hr3', hb3'⟩; have hb3 := below_chain (bdrew (Below.refl _ w2)) hb3'; have h3 := h2.below hb3; have hr3 := Row.own hr3'; have hown3 := h3.own; have cF3 := h3.cF; have cN3 := h3.cN; have hs3 := h3.sz; have hF4 := fun w4 (hgrow4 : w3.grownBy w4 v.ownBlock) => hgrow4.cell h3.cF (fun e => by have := (h3.own.lt _ e.symm).1; simp at this); have hG4 := fun w4 (hgrow4 : w3.grownBy w4 v.ownBlock) => (hgrow4.frozen_far ⟨g + 1, 0, none⟩ (by show g + 1 < _; omega) (fun e => by have := (h3.own.lt _ e.symm).1; simp at this)).trans h3.fF))
  all_goals
    go_wp2_with fail
    rw [List.length_append] at h5
    exact bodyPost_ret (v := .tuple #[]) (results_none rfl _ _ _) rfl ⟨rfl, _, h5⟩

theorem visitsAt_le (a b : List Ent) (p : Bytes) (k : Nat) (h : p.length + k = 16) : visitsAt a b p + 1 ≤ 2 ^ (k + 1) := by
  unfold visitsAt
  have e : 16 - p.length = k := by omega
  rw [e]
  exact visits_le a b k p
/-- What the search is said to do at a prefix. -/
def LkDoes (w1 : World) (g gA gB : Nat) (N : Option Addr) (a b : List Ent) (cn k : Nat) : Prop :=
  ∀ (p : Bytes) (W : World) (cnt : Nat) (v : Value) (F : List Bytes), p.length + k = 16 → p.all Bin.bitByte = true → cnt + 2 ^ (k + 1) ≤ 1000000 → F.length ≤ 48 * cnt → Lk w1 g gA gB N (differ a b).length cn W cnt v F →
    Calls Try.prog 33 #[.string (S p), .pointer (some ⟨g + 2, 0, none⟩), .pointer (some ⟨gA, 0, none⟩), .pointer (some ⟨gB, 0, none⟩), .pointer (some ⟨g + 1, 0, none⟩), .pointer (some ⟨g, 0, none⟩), .pointer (some ⟨g + 3, 0, none⟩)] W
      fun e W' => e = .returned (.tuple #[]) ∧ ∃ v', Lk w1 g gA gB N (differ a b).length cn W' (cnt + visitsAt a b p) v' (F ++ foundAt a b p)

set_option maxHeartbeats 2000000 in
theorem look_more (HB : LkBase w1 g gA gB A B N a b ca cb cn) (ha : Good a) (hb : Good b) (hd : (differ a b).length ≤ 48) (k : Nat) (ih : LkDoes w1 g gA gB N a b cn k) (p : Bytes) (W : World) (cnt : Nat) (v : Value) (F : List Bytes) (hl : p.length + (k + 1) = 16) (hbits : p.all Bin.bitByte = true) (hc : cnt + 2 ^ (k + 1 + 1) ≤ 1000000) (hF : F.length ≤ 48 * cnt) (he : ¬ prefMark a p = prefMark b p) (h : Lk w1 g gA gB N (differ a b).length cn W cnt v F) :
    Calls Try.prog 33 #[.string (S p), .pointer (some ⟨g + 2, 0, none⟩), .pointer (some ⟨gA, 0, none⟩), .pointer (some ⟨gB, 0, none⟩), .pointer (some ⟨g + 1, 0, none⟩), .pointer (some ⟨g, 0, none⟩), .pointer (some ⟨g + 3, 0, none⟩)] W fun e W' => e = .returned (.tuple #[]) ∧ ∃ v', Lk w1 g gA gB N (differ a b).length cn W' (cnt + visitsAt a b p) v' (F ++ foundAt a b p) := by
  have hS := fun (w : World) hA hB => Lib.hid (sameHash A B ca cb a b p w ha hb (bits_pre hbits (by omega)) hA hB false (decide_eq_false he))
  have h1 := h.count
  obtain ⟨cA, cB, rA, rB, -⟩ := HB.at_ h1.bl
  have cE := h.cE
  have fE := h.fE
  have hl1 : ((p.length : Int) == 16) = false := beq_eq_false_iff_ne.2 (by omega)
  have hpow : 2 ^ (k + 1 + 1) = 2 * 2 ^ (k + 1) := by rw [Nat.pow_succ]; omega
  have hpos : 0 < 2 ^ (k + 1) := Nat.pow_pos (by decide)
  have hcnt : cnt ≤ 1000000 := by omega
  have e0 : (p ++ [48]).length + k = 16 := by rw [List.length_append, List.length_singleton]; omega
  have e1 : (p ++ [49]).length + k = 16 := by rw [List.length_append, List.length_singleton]; omega
  have b0 : (p ++ [48]).all Bin.bitByte = true := by rw [List.all_append, hbits]; rfl
  have b1 : (p ++ [49]).all Bin.bitByte = true := by rw [List.all_append, hbits]; rfl
  obtain ⟨hv, hf⟩ := visitsAt_more a b p he (by omega)
  have hv0 := visitsAt_le a b (p ++ [48]) k e0
  have hf0 := foundAt_le a b (p ++ [48])
  have hm0 : (differ a b).length * visitsAt a b (p ++ [48]) ≤ 48 * visitsAt a b (p ++ [48]) := Nat.mul_le_mul_right _ hd
  have i0 := fun W h => Lib.hid (ih (p ++ [48]) W (cnt + 1) v F e0 b0 (by omega) (by omega) h)
  have i1 := fun W v' h => Lib.hid (ih (p ++ [49]) W (cnt + 1 + visitsAt a b (p ++ [48])) v' (F ++ foundAt a b (p ++ [48])) e1 b1 (by omega) (by rw [List.length_append]; omega) h)
  rw [hv, hf]
  have hp15 : p.length ≤ 15 := by omega
  clear HB ha hb he h ih hbits hl hpow hpos hc e0 e1 b0 b1 hv hf hv0 hf0 hm0 hd hF
  generalize differ a b = ns at *
  generalize visitsAt a b (p ++ [48]) = x0 at *
  generalize visitsAt a b (p ++ [49]) = x1 at *
  generalize foundAt a b (p ++ [48]) = y0 at *
  generalize foundAt a b (p ++ [49]) = y1 at *
  go_enter Try.func33, Try.ntmps33
  go_wp2_with fail
  refine (hS _ rA rB).out.mono ?_
  rintro e w2 ⟨rfl, hb2⟩
  have h2 := h1.below hb2
  clear hS h1 hb2 cA cB rA rB cE fE
  have cX := h2.cX
  go_wp2_with fail
  refine (i0 _ h2).out.mono ?_
  rintro e w3 ⟨rfl, v3, h3⟩
  have cX3 := h3.cX
  clear h2 cX i0
  go_wp2_with fail
  refine (i1 _ _ h3).out.mono ?_
  rintro e w4 ⟨rfl, v4, h4⟩
  clear h3 cX3 i1
  go_wp2_with fail
  have e4 : cnt + 1 + x0 + x1 = cnt + (1 + (x0 + x1)) := by omega
  rw [List.append_assoc, e4] at h4
  exact bodyPost_end (v := .tuple #[]) (results_none rfl _ _ _) rfl ⟨rfl, v4, h4⟩

theorem look_does (HB : LkBase w1 g gA gB A B N a b ca cb cn) (ha : Good a) (hb : Good b) (hd : (differ a b).length ≤ 48) (hdn : ∀ n ∈ differ a b, Bin.name n = true) (k : Nat) : LkDoes w1 g gA gB N a b cn k := by
  induction k with
  | zero =>
    intro p W cnt v F hl hbits hc hF h
    have hg := bits_pre hbits (by omega)
    have hc' : cnt ≤ 1000000 := by omega
    by_cases he : prefMark a p = prefMark b p
    · obtain ⟨hv, hf⟩ := visitsAt_same a b p he
      rw [hv, hf, List.append_nil]
      exact (look_same HB ha hb p W cnt v F hg hc' he h).mono fun e w' k => ⟨k.1, v, k.2⟩
    · obtain ⟨hv, hf⟩ := visitsAt_deep a b p he (by omega)
      rw [hv, hf]
      exact look_deep HB ha hb hd hdn p W cnt v F hg (by omega) hc' hF he h
  | succ k ih =>
    intro p W cnt v F hl hbits hc hF h
    by_cases he : prefMark a p = prefMark b p
    · obtain ⟨hv, hf⟩ := visitsAt_same a b p he
      rw [hv, hf, List.append_nil]
      exact (look_same HB ha hb p W cnt v F (bits_pre hbits (by omega)) (Nat.le_trans (Nat.le_add_right _ _) hc) he h).mono fun e w' k => ⟨k.1, v, k.2⟩
    · exact look_more HB ha hb hd k ih p W cnt v F hl hbits hc hF he h
end
end Go.Proofs.Ytmmmolbejfdamaa
/- package change: Look returns the names found by comparing the trees from the root, in order, and how many prefixes were examined, or the error of tree.Check. It writes nothing that was there. -/
namespace Go.Proofs.Ytmmmolbejfdamaa
set_option maxRecDepth 100000
open Go.RowKit

/-- What Look leaves. -/
def LooksGives (T : List Bytes) (n : Nat) (w : World) (e : Ending) (w' : World) : Prop := ∃ D d, e = .returned (.tuple #[.slice D T.length d, .int .i64 (n : Int), .int .i64 0]) ∧ Row w' D (scells T) ∧ Below w.heap.size w w'

set_option maxHeartbeats 800000 in
theorem changeLook_no (A B : Option Addr) (c d : Nat) (a b : List Ent) (w : World) (hma : a.length ≤ maxLen) (hea : ∀ x ∈ a, x.1.length ≤ maxLen ∧ x.2.length ≤ maxLen) (hmb : b.length ≤ maxLen) (heb : ∀ x ∈ b, x.1.length ≤ maxLen ∧ x.2.length ≤ maxLen)
    (hA : Row w A (encells a)) (hB : Row w B (encells b)) (r : Int) (hr : diffErr a b = r) (h0 : r ≠ 0) :
    Calls Try.prog 9 #[.slice A a.length c, .slice B b.length d] w fun e w' => e = .returned (.tuple #[.slice none 0 0, .int .i64 0, .int .i64 r]) ∧ Below w.heap.size w w' := by
  have hD := fun (w : World) hA hB => Lib.hid (changeDiff_no A B c d a b w hma hea hmb heb hA hB r hr h0)
  have c1 : (r == 0) = false := beq_eq_false_iff_ne.2 h0
  have hb0 : Below w.heap.size w ((w.alloc (.cells #[.slice A a.length c] 22)).alloc (.cells #[.slice B b.length d] 22)) := balloc (balloc (Below.refl _ w) _) _
  clear hma hea hmb heb hr h0
  go_enter Try.func9, Try.ntmps9
  go_wp2_with fail
  refine (hD _ (hA.below hb0) (hB.below hb0)).out.mono ?_
  rintro e w1 ⟨rfl, hb1⟩
  have hb01 := below_chain hb0 hb1
  clear hD hA hB hb0
  have hb9 := balloc hb01 (.cells #[.slice none 0 0] 23)
  go_wp2_with fail
  go_ret3
  exact ⟨rfl, hb9⟩

theorem differ_names {a b : List Ent} (ha : Good a) (hb : Good b) : ∀ n ∈ differ a b, Bin.name n = true := fun n hn => by
  obtain ⟨x, hx, rfl⟩ := List.mem_map.1 ((Bin.srt_mem _ _).1 (List.mem_filter.1 hn).1)
  rcases List.mem_append.1 hx with h | h
  · exact ha.name x h
  · exact hb.name x h
theorem differ_le (a b : List Ent) : (differ a b).length ≤ a.length + b.length := by
  have h1 := Bin.srt_le ((a ++ b).map (·.1))
  rw [List.length_map, List.length_append] at h1
  exact Nat.le_trans (List.length_filter_le _ _) h1

theorem box_new (w : World) (v : Value) (t : TypeId) (g : Nat) (hg : w.heap.size = g) :
    (w.alloc (.cells #[v] t)).cell? ⟨g, 0, none⟩ = some v ∧ (w.alloc (.cells #[v] t)).frozen? ⟨g, 0, none⟩ = false ∧ (w.alloc (.cells #[v] t)).heap.size = g + 1 ∧ Below w.heap.size w (w.alloc (.cells #[v] t)) := by
  subst hg
  exact ⟨new_cell w v t, by simp, by simp, (Below.refl _ _).alloc (Nat.le_refl _) _⟩
/-- The four variables that the search starts with. -/
theorem look_start (w1 : World) (g gA gB n cn : Nat) (N : Option Addr) (hg : w1.heap.size = g) (t1 t2 t3 t4 : TypeId) (W : World)
    (hW : W = (((w1.alloc (.cells #[.slice N n cn] t1)).alloc (.cells #[.slice none 0 0] t2)).alloc (.cells #[.int .i64 0] t3)).alloc (.cells #[.func (.func 33) #[] #[.pointer (some ⟨g + 2, 0, none⟩), .pointer (some ⟨gA, 0, none⟩), .pointer (some ⟨gB, 0, none⟩), .pointer (some ⟨g + 1, 0, none⟩), .pointer (some ⟨g, 0, none⟩), .pointer (some ⟨g + 3, 0, none⟩)]] t4)) :
    Lk w1 g gA gB N n cn W 0 (.slice none 0 0) [] := by
  obtain ⟨a1, a2, a3, a4⟩ := box_new w1 (.slice N n cn) t1 g hg
  generalize w1.alloc (.cells #[.slice N n cn] t1) = u1 at *
  obtain ⟨b1, b2, b3, b4⟩ := box_new u1 (.slice none 0 0) t2 (g + 1) a3
  generalize u1.alloc (.cells #[.slice none 0 0] t2) = u2 at *
  obtain ⟨c1, c2, c3, c4⟩ := box_new u2 (.int .i64 0) t3 (g + 1 + 1) b3
  generalize u2.alloc (.cells #[.int .i64 0] t3) = u3 at *
  obtain ⟨d1, d2, d3, d4⟩ := box_new u3 (.func (.func 33) #[] #[.pointer (some ⟨g + 2, 0, none⟩), .pointer (some ⟨gA, 0, none⟩), .pointer (some ⟨gB, 0, none⟩), .pointer (some ⟨g + 1, 0, none⟩), .pointer (some ⟨g, 0, none⟩), .pointer (some ⟨g + 3, 0, none⟩)]) t4 (g + 1 + 1 + 1) c3
  rw [← hW] at d1 d2 d3 d4
  clear hW
  have hb24 := below_chain c4 d4
  have hb14 := below_chain b4 hb24
  have hb04 := below_chain a4 hb14
  exact ⟨World.ownsRow_nil _ _ _ _, kept a1 hb14, kept b1 hb24, (hb24.frozen (p := ⟨g + 1, 0, none⟩) (by show g + 1 < _; omega)).trans b2, kept c1 d4, (d4.frozen (p := ⟨g + 2, 0, none⟩) (by show g + 2 < _; omega)).trans c2, d1, by rw [← hg]; exact hb04, by omega⟩
theorem look_root {w1 : World} {g gA gB : Nat} {A B N : Option Addr} {a b : List Ent} {ca cb cn : Nat} (HB : LkBase w1 g gA gB A B N a b ca cb cn) (ha : Good a) (hb : Good b) (W : World) (n : Nat) (T : List Bytes) (hn : visitsAt a b [] = n) (hT : foundAt a b [] = T) (h : Lk w1 g gA gB N (differ a b).length cn W 0 (.slice none 0 0) []) :
    Calls Try.prog 33 #[.string ⟨#[]⟩, .pointer (some ⟨g + 2, 0, none⟩), .pointer (some ⟨gA, 0, none⟩), .pointer (some ⟨gB, 0, none⟩), .pointer (some ⟨g + 1, 0, none⟩), .pointer (some ⟨g, 0, none⟩), .pointer (some ⟨g + 3, 0, none⟩)] W fun e W' => e = .returned (.tuple #[]) ∧ ∃ v', Lk w1 g gA gB N (differ a b).length cn W' n v' T := by
  have hla := ha.len
  have hlb := hb.len
  have hdl := differ_le a b
  have hdo := look_does HB ha hb (by omega) (differ_names ha hb) 16 [] W 0 (.slice none 0 0) [] rfl rfl (by omega) (Nat.zero_le _) h
  rw [hn, hT, Nat.zero_add, List.nil_append] at hdo
  exact hdo

set_option maxHeartbeats 800000 in
theorem changeLook_yes (A B : Option Addr) (c d : Nat) (a b : List Ent) (w : World) (ha : Good a) (hb : Good b) (hA : Row w A (encells a)) (hB : Row w B (encells b)) :
    Calls Try.prog 9 #[.slice A a.length c, .slice B b.length d] w (LooksGives (foundAt a b []) (visitsAt a b []) w) := by
  have hD := fun (w : World) hA hB => Lib.hid (changeDiff_yes A B c d a b w ha hb hA hB)
  obtain ⟨n, hn⟩ : ∃ n, visitsAt a b [] = n := ⟨_, rfl⟩
  obtain ⟨T, hT⟩ : ∃ T, foundAt a b [] = T := ⟨_, rfl⟩
  rw [hn, hT]
  have hL := fun (w1 : World) (g gA gB : Nat) (N : Option Addr) (cn : Nat) (HB : LkBase w1 g gA gB A B N a b c d cn) (W : World) (h : Lk w1 g gA gB N (differ a b).length cn W 0 (.slice none 0 0) []) => Lib.hid (look_root HB ha hb W n T hn hT h)
  clear hn hT
  have hb0 : Below w.heap.size w ((w.alloc (.cells #[.slice A a.length c] 22)).alloc (.cells #[.slice B b.length d] 22)) := balloc (balloc (Below.refl _ w) _) _
  have kA : ((w.alloc (.cells #[.slice A a.length c] 22)).alloc (.cells #[.slice B b.length d] 22)).cell? ⟨w.heap.size, 0, none⟩ = some (.slice A a.length c) := by
    rw [World.cell?_alloc_lt _ _ _ (by simp), World.cell?_alloc_new]; rfl
  have kB : ((w.alloc (.cells #[.slice A a.length c] 22)).alloc (.cells #[.slice B b.length d] 22)).cell? ⟨w.heap.size + 1, 0, none⟩ = some (.slice B b.length d) := by
    have e : (w.alloc (.cells #[.slice A a.length c] 22)).heap.size = w.heap.size + 1 := by simp
    rw [← e, World.cell?_alloc_new]; rfl
  go_enter Try.func9, Try.ntmps9
  go_wp2_with fail
  refine (hD _ (hA.below hb0) (hB.below hb0)).out.mono ?_
  rintro e w1 ⟨N, cn, rfl, rN, hb1⟩
  have hb01 := below_chain hb0 hb1
  have HB : LkBase w1 w1.heap.size w.heap.size (w.heap.size + 1) A B N a b c d cn := ⟨rfl, kept kA hb1, kept kB hb1, hA.below hb01, hB.below hb01, rN⟩
  have hL1 := fun W h => hL _ _ _ _ _ _ HB W h
  clear hD hA hB hb0 hL kA kB HB ha hb
  have x3 := look_start w1 w1.heap.size w.heap.size (w.heap.size + 1) (differ a b).length cn N rfl 23 23 3 64 _ rfl
  generalize differ a b = ns at *
  go_wp2_with fail
  refine (hL1 _ x3).out.mono ?_
  rintro e w5 ⟨rfl, v5, h5⟩
  have h6 := h5.cF
  have h7 : w5.cell? ⟨w1.heap.size + 1 + 1, 0, none⟩ = some (.int .i64 (n : Int)) := h5.cE
  obtain ⟨D5, d5, rfl⟩ := own_shape h5.own
  have hr := Row.own h5.own
  have hb5 := below_chain hb01 h5.bl
  clear h5 x3 hL1 hb01
  go_wp2
  go_quiet (fail)
  go_wp2
  go_ret3
  exact ⟨D5, d5, rfl, hr.below (below_drewN (Below.refl _ _) _), below_drewN hb5 _⟩
end Go.Proofs.Ytmmmolbejfdamaa
/- The check that package change is built returns true; Diff and Look, whatever they are given. They write nothing that was there. -/
namespace Go.Proofs.Ytmmmolbejfdamaa
set_option maxRecDepth 100000
open Go.RowKit

theorem good_empty : Good [] := ⟨by simp, fun x hx => by simp at hx, fun x hx => by simp at hx, by simp⟩
theorem look_live (w : World) : Calls Try.prog 9 #[.slice none 0 0, .slice none 0 0] w fun e w' => ∃ A k c, e = .returned (.tuple #[.slice A k c, .int .i64 1, .int .i64 0]) ∧ Below w.heap.size w w' := by
  have h := changeLook_yes none none 0 0 [] [] w good_empty good_empty (Row.nil_ _ _) (Row.nil_ _ _)
  obtain ⟨h1, h2⟩ := visitsAt_same [] [] [] rfl
  rw [h1, h2] at h
  refine h.mono ?_
  rintro e w' ⟨D, d, rfl, _, hb⟩
  exact ⟨D, _, d, rfl, hb⟩
set_option maxHeartbeats 400000 in
theorem changes (w : World) : Calls Try.prog 20 #[] w fun e w' => e = .returned (.bool true) ∧ Below w.heap.size w w' := by
  have h := fun w => Lib.hid (look_live w)
  go_enter Try.func20, Try.ntmps20
  go_wp2_with fail
  refine (h _).out.mono ?_
  rintro e w1 ⟨A, k, c, rfl, hb⟩
  go_wp2
  go_ret
  exact ⟨rfl, hb⟩

/-- What Diff returns, whatever it is given. -/
def diffRes (a b : List Ent) : List Bytes := if diffErr a b = 0 then differ a b else []
def DiffAny (T : List Bytes) (r : Int) (w : World) (e : Ending) (w' : World) : Prop := ∃ D d, e = .returned (.tuple #[.slice D T.length d, .int .i64 r]) ∧ Row w' D (scells T) ∧ Below w.heap.size w w'
theorem changeDiff (A B : Option Addr) (c d : Nat) (a b : List Ent) (w : World) (hma : a.length ≤ maxLen) (hea : ∀ x ∈ a, x.1.length ≤ maxLen ∧ x.2.length ≤ maxLen) (hmb : b.length ≤ maxLen) (heb : ∀ x ∈ b, x.1.length ≤ maxLen ∧ x.2.length ≤ maxLen)
    (hA : Row w A (encells a)) (hB : Row w B (encells b)) (T : List Bytes) (hT : diffRes a b = T) (r : Int) (hr : diffErr a b = r) :
    Calls Try.prog 8 #[.slice A a.length c, .slice B b.length d] w (DiffAny T r w) := by
  subst hT; subst hr
  unfold diffRes
  by_cases h : diffErr a b = 0
  · rw [if_pos h, h]
    obtain ⟨ha, hb⟩ := (diffErr_ok a b).1 h
    exact changeDiff_yes A B c d a b w ha hb hA hB
  · rw [if_neg h]
    refine (changeDiff_no A B c d a b w hma hea hmb heb hA hB _ rfl h).mono ?_
    rintro e w' ⟨rfl, hb⟩
    exact ⟨none, 0, rfl, Row.nil_ _ _, hb⟩
def lookRes (a b : List Ent) : List Bytes := if diffErr a b = 0 then foundAt a b [] else []
def lookNum (a b : List Ent) : Nat := if diffErr a b = 0 then visitsAt a b [] else 0
def LookAny (T : List Bytes) (n : Nat) (r : Int) (w : World) (e : Ending) (w' : World) : Prop := ∃ D d, e = .returned (.tuple #[.slice D T.length d, .int .i64 (n : Int), .int .i64 r]) ∧ Row w' D (scells T) ∧ Below w.heap.size w w'
theorem changeLook (A B : Option Addr) (c d : Nat) (a b : List Ent) (w : World) (hma : a.length ≤ maxLen) (hea : ∀ x ∈ a, x.1.length ≤ maxLen ∧ x.2.length ≤ maxLen) (hmb : b.length ≤ maxLen) (heb : ∀ x ∈ b, x.1.length ≤ maxLen ∧ x.2.length ≤ maxLen)
    (hA : Row w A (encells a)) (hB : Row w B (encells b)) (T : List Bytes) (hT : lookRes a b = T) (n : Nat) (hn : lookNum a b = n) (r : Int) (hr : diffErr a b = r) :
    Calls Try.prog 9 #[.slice A a.length c, .slice B b.length d] w (LookAny T n r w) := by
  subst hT; subst hr; subst hn
  unfold lookRes lookNum
  by_cases h : diffErr a b = 0
  · rw [if_pos h, if_pos h, h]
    obtain ⟨ha, hb⟩ := (diffErr_ok a b).1 h
    exact changeLook_yes A B c d a b w ha hb hA hB
  · rw [if_neg h, if_neg h]
    refine (changeLook_no A B c d a b w hma hea hmb heb hA hB _ rfl h).mono ?_
    rintro e w' ⟨rfl, hb⟩
    exact ⟨none, 0, rfl, Row.nil_ _ _, hb⟩
end Go.Proofs.Ytmmmolbejfdamaa
