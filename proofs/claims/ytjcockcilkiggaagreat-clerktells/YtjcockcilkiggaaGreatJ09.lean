/- Rows of heads: their cells, what append, slices.Clone and slices.Equal make of them. -/
import Derived.Test.YtjcockcilkiggaaGreatJ08
import Derived.Test.YtjcockcilkiggaaGreatJ01
import Derived.Lib.SliceRun
import Derived.Handy
import Derived.Test.YtjcockcilkiggaaGreatJ06
namespace Go.Proofs.YtjcockcilkiggaaGreat
set_option maxRecDepth 100000
open Go.RowKit

/-- The cells of a list of heads. -/
def hcells (l : List Hd) : List Value := l.flatMap fun h => [.int .i64 h.1, .int .u64 (h.2.1 : Int), .int .u64 (h.2.2.1 : Int), .int .i64 h.2.2.2]
theorem hcells_cons (x : Hd) (l : List Hd) : hcells (x :: l) = .int .i64 x.1 :: .int .u64 (x.2.1 : Int) :: .int .u64 (x.2.2.1 : Int) :: .int .i64 x.2.2.2 :: hcells l := rfl
theorem hcells_length (l : List Hd) : (hcells l).length = l.length * 4 := by
  induction l with
  | nil => rfl
  | cons x l ih =>
    rw [hcells_cons, List.length_cons, List.length_cons, List.length_cons, List.length_cons, ih, List.length_cons]
    omega
theorem hcells_append (a b : List Hd) : hcells (a ++ b) = hcells a ++ hcells b := by simp [hcells]
theorem hcells_get (l : List Hd) (k : Nat) (h : k < l.length) :
    (hcells l)[k * 4]? = some (.int .i64 l[k].1) ∧ (hcells l)[k * 4 + 1]? = some (.int .u64 (l[k].2.1 : Int)) ∧ (hcells l)[k * 4 + 2]? = some (.int .u64 (l[k].2.2.1 : Int)) ∧ (hcells l)[k * 4 + 3]? = some (.int .i64 l[k].2.2.2) := by
  induction l generalizing k with
  | nil => simp at h
  | cons x l ih =>
    rw [hcells_cons]
    cases k with
    | zero => exact ⟨rfl, rfl, rfl, rfl⟩
    | succ k =>
      have := ih k (by simpa using h)
      rw [show (k + 1) * 4 = k * 4 + 1 + 1 + 1 + 1 by omega, show k * 4 + 1 + 1 + 1 + 1 + 1 = (k * 4 + 1) + 1 + 1 + 1 + 1 by omega, show k * 4 + 1 + 1 + 1 + 1 + 2 = (k * 4 + 2) + 1 + 1 + 1 + 1 by omega, show k * 4 + 1 + 1 + 1 + 1 + 3 = (k * 4 + 3) + 1 + 1 + 1 + 1 by omega]
      simpa using this
theorem Row.head {w : World} {A : Option Addr} {l : List Hd} (h : Row w A (hcells l)) (k : Nat) (hk : k < l.length) :
    ∃ g off, A = some ⟨g, off, none⟩ ∧ w.cell? ⟨g, off + k * 4, none⟩ = some (.int .i64 l[k].1) ∧ w.cell? ⟨g, off + k * 4 + 1, none⟩ = some (.int .u64 (l[k].2.1 : Int)) ∧ w.cell? ⟨g, off + k * 4 + 2, none⟩ = some (.int .u64 (l[k].2.2.1 : Int)) ∧ w.cell? ⟨g, off + k * 4 + 3, none⟩ = some (.int .i64 l[k].2.2.2) := by
  obtain ⟨g, off, e, hc⟩ := h (by rw [hcells_length]; omega)
  have hg := hcells_get l k hk
  have h0 := hc (k * 4) (by rw [hcells_length]; omega)
  have h1 := hc (k * 4 + 1) (by rw [hcells_length]; omega)
  have h2 := hc (k * 4 + 2) (by rw [hcells_length]; omega)
  have h3 := hc (k * 4 + 3) (by rw [hcells_length]; omega)
  obtain ⟨l0, e0⟩ := List.getElem?_eq_some_iff.1 hg.1
  obtain ⟨l1, e1⟩ := List.getElem?_eq_some_iff.1 hg.2.1
  obtain ⟨l2, e2⟩ := List.getElem?_eq_some_iff.1 hg.2.2.1
  obtain ⟨l3, e3⟩ := List.getElem?_eq_some_iff.1 hg.2.2.2
  rw [e0] at h0
  rw [e1] at h1
  rw [e2] at h2
  rw [e3] at h3
  exact ⟨g, off, e, h0, by rw [Nat.add_assoc]; exact h1, by rw [Nat.add_assoc]; exact h2, by rw [Nat.add_assoc]; exact h3⟩
/-- The first head. -/
theorem Row.head0 {w : World} {A : Option Addr} {x : Hd} {l : List Hd} (h : Row w A (hcells (x :: l))) :
    ∃ g off, A = some ⟨g, off, none⟩ ∧ w.cell? ⟨g, off, none⟩ = some (.int .i64 x.1) ∧ w.cell? ⟨g, off + 1, none⟩ = some (.int .u64 (x.2.1 : Int)) ∧ w.cell? ⟨g, off + 2, none⟩ = some (.int .u64 (x.2.2.1 : Int)) ∧ w.cell? ⟨g, off + 3, none⟩ = some (.int .i64 x.2.2.2) := by
  obtain ⟨g, off, e, h0, h1, h2, h3⟩ := h.head 0 (by simp)
  exact ⟨g, off, e, by simpa using h0, by simpa using h1, by simpa using h2, by simpa using h3⟩
theorem hcells_take (l : List Hd) (p : Nat) : hcells (l.take p) = (hcells l).take (p * 4) := by
  induction l generalizing p with
  | nil => simp [hcells]
  | cons x l ih =>
    cases p with
    | zero => simp [hcells]
    | succ p => rw [List.take_succ_cons, hcells_cons, hcells_cons, ih p, show (p + 1) * 4 = p * 4 + 1 + 1 + 1 + 1 by omega, List.take_succ_cons, List.take_succ_cons, List.take_succ_cons, List.take_succ_cons]
theorem hcells_drop (l : List Hd) (p : Nat) : hcells (l.drop p) = (hcells l).drop (p * 4) := by
  induction l generalizing p with
  | nil => simp [hcells]
  | cons x l ih =>
    cases p with
    | zero => simp [hcells]
    | succ p => rw [List.drop_succ_cons, hcells_cons, ih p, show (p + 1) * 4 = p * 4 + 1 + 1 + 1 + 1 by omega, List.drop_succ_cons, List.drop_succ_cons, List.drop_succ_cons, List.drop_succ_cons]
theorem Row.takeH {w : World} {A : Option Addr} {l : List Hd} (h : Row w A (hcells l)) (p : Nat) : Row w A (hcells (l.take p)) := by rw [hcells_take]; exact h.take _
theorem Row.dropH {w : World} {A : Option Addr} {l : List Hd} (h : Row w A (hcells l)) (p : Nat) : Row w (A.map (·.add (p * 4))) (hcells (l.drop p)) := by rw [hcells_drop]; exact h.drop _
theorem hd_one (l : List Hd) : ∀ u ∈ hcells l, u.oneCell' = true := fun u hu => by
  obtain ⟨y, _, hy⟩ := List.mem_flatMap.1 hu
  simp only [List.mem_cons, List.not_mem_nil, or_false] at hy
  rcases hy with rfl | rfl | rfl | rfl <;> rfl

theorem hd_info : ∃ i, Tryz.prog.info? 45 = some i ∧ i.zero = some (.agg #[.int .i64 0, .int .u64 0, .int .u64 0, .int .i64 0]) ∧ i.size = 4 ∧ i.bytes = 32 := by
  have h : (Tryz.prog.info? 45).map (fun i => (i.zero, i.size, i.bytes)) = some (some (.agg #[.int .i64 0, .int .u64 0, .int .u64 0, .int .i64 0]), 4, 32) := by kernel_rfl
  obtain ⟨i, hi, he⟩ := Option.map_eq_some_iff.1 h
  simp only [Prod.mk.injEq] at he
  exact ⟨i, hi, he.1, he.2.1, he.2.2⟩
/-- append onto a row of the call's own: the run itself. -/
theorem run_appH (w : World) (ty : TypeId) (base : Nat) (v : Value) (l : List Hd) (hown : w.ownsRow base 45 4 v l.length (hcells l))
    (B : Option Addr) (c : Nat) (r : List Hd) (hB : Row w B (hcells r)) (hr : 0 < r.length) (hsmall : (l.length + r.length) * 32 ≤ 140737488355328) (hbase : base ≤ w.heap.size) :
    ∃ v' w', (Builtin.append_ #[25, 25] ty #[v, .slice B r.length c]).run Tryz.prog w = .ok v' w' ∧ w'.ownsRow base 45 4 v' (l ++ r).length (hcells (l ++ r)) ∧ w.grownBy w' v.ownBlock := by
  obtain ⟨i0, hi, hz0, hz1, hz2⟩ := hd_info
  obtain ⟨gb, off, rfl, hc⟩ := hB (by rw [hcells_length]; omega)
  have hnews : ∀ j u, (hcells r)[j]? = some u → w.cell? ((⟨gb, off, none⟩ : Addr).add j) = some u := fun j u hu => by
    obtain ⟨hj, rfl⟩ := List.getElem?_eq_some_iff.1 hu
    rw [Go.WideShapes.add_plain]
    exact hc j hj
  obtain ⟨v', w', h1, h2, h3, _⟩ := run_append_own (P := Tryz.prog) (w := w) base 25 ty 45 i0 (.agg #[.int .i64 0, .int .u64 0, .int .u64 0, .int .i64 0]) 4 32 Tryz.underlying25 hi hz0 hz1 hz2 rfl (by decide) v l.length (hcells l) hown ⟨gb, off, none⟩ r.length c (hcells r) (hcells_length r) hnews (hd_one r) (by unfold maxLen; omega) hsmall hbase
  exact ⟨v', w', h1, by rw [List.length_append, hcells_append]; exact h2, h3⟩

/-- append onto a row of the call's own, as one step of a region that draws. -/
theorem step_app_heads {ops : Array Oper} {o : Oper} {a : Act} {w : World} {K : Act → World → Prop} {Q : Exit → Act → World → Prop} {E : Prop} (hgd : o.guard = none) (s x : Operand)
    (ho : o.op = .call { callee := .builtin .append, args := #[s, x], argTypes := #[25, 25] })
    (base : Nat) (v : Value) (l : List Hd) (hs : a.eval s = v) (hown : w.ownsRow base 45 4 v l.length (hcells l))
    (B : Option Addr) (c : Nat) (r : List Hd) (hx : a.eval x = .slice B r.length c) (hB : Row w B (hcells r)) (hr : 0 < r.length) (hsmall : (l.length + r.length) * 32 ≤ 140737488355328) (hbase : base ≤ w.heap.size)
    (h : ∀ v' w', w'.ownsRow base 45 4 v' (l ++ r).length (hcells (l ++ r)) → w.grownBy w' v.ownBlock → K (a.put o.dst v') w') :
    if Region.wanted o (yielded ops a.tmps) = true then Oper.wp Tryz.prog o a w K Q else E := by
  have hw : Region.wanted o (yielded ops a.tmps) = true := by simp [Region.wanted, hgd]
  rw [if_pos hw]
  obtain ⟨v', w', hrun, h1, h2⟩ := run_appH w o.type base v l hown B c r hB hr hsmall hbase
  unfold Oper.wp
  simp [execOp, ho, resolve, invoke, builtin, hs, hx, hrun, Result.andThen]
  exact h v' w' h1 h2
/-- .. and in a straight line. -/
theorem app_heads {ops : Array Oper} {rest : List Oper} {o : Oper} {a : Act} {Q : Exit → Act → World → Prop} (w : World) (hgd : o.guard = none) (s x : Operand)
    (ho : o.op = .call { callee := .builtin .append, args := #[s, x], argTypes := #[25, 25] })
    (base : Nat) (v : Value) (l : List Hd) (hs : a.eval s = v) (hown : w.ownsRow base 45 4 v l.length (hcells l))
    (B : Option Addr) (c : Nat) (r : List Hd) (hx : a.eval x = .slice B r.length c) (hB : Row w B (hcells r)) (hr : 0 < r.length) (hsmall : (l.length + r.length) * 32 ≤ 140737488355328) (hbase : base ≤ w.heap.size)
    (h : ∀ v' w', w'.ownsRow base 45 4 v' (l ++ r).length (hcells (l ++ r)) → w.grownBy w' v.ownBlock → wpList Tryz.prog ops Q rest (a.put o.dst v') w') : wpList Tryz.prog ops Q (o :: rest) a w := by
  obtain ⟨v', w', hrun, h1, h2⟩ := run_appH w o.type base v l hown B c r hB hr hsmall hbase
  exact app_run w hgd s x _ _ ho v _ v' w' hs hx hrun (h v' w' h1 h2)
/-- One head in a block just made. -/
theorem head_one (w : World) (h : Hd) (t : TypeId) : Row (w.alloc (.cells #[.int .i64 h.1, .int .u64 (h.2.1 : Int), .int .u64 (h.2.2.1 : Int), .int .i64 h.2.2.2] t)) (some ⟨w.heap.size, 0, none⟩) (hcells [h]) := Row.new w _ _ _ t rfl rfl
theorem own_cap {w : World} {base size : Nat} {e : TypeId} {A : Option Addr} {n c : Nat} {xs : List Value} (h : w.ownsRow base e size (.slice A n c) n xs) : n ≤ c ∧ c ≤ maxLen := by
  rcases h.2 with ⟨h0, rfl⟩ | ⟨g, cap, cur, hv, _, _, h1, h2, _⟩
  · injection h0 with _ _ e3
    subst e3
    exact ⟨Nat.le_refl _, by unfold maxLen; omega⟩
  · injection hv with _ _ e3
    subst e3
    exact ⟨h1, h2⟩
theorem own_base {w : World} {base b' size : Nat} {e : TypeId} {v : Value} {n : Nat} {xs : List Value} (h : w.ownsRow base e size v n xs) (hb : b' ≤ base) : w.ownsRow b' e size v n xs := by
  refine ⟨h.1, ?_⟩
  rcases h.2 with h0 | ⟨g, cap, cur, hv, h1, rest⟩
  · exact .inl h0
  · exact .inr ⟨g, cap, cur, hv, Nat.le_trans hb h1, rest⟩

/-- A store into a cell that holds a value of another kind leaves a row of heads as it was. -/
theorem Row.setFar {w : World} {D : Option Addr} {T : List Hd} (h : Row w D (hcells T)) (a : Addr) (A : Option Addr) (n c : Nat) (u : Value) (hu : w.cell? a = some (.slice A n c)) : Row (w.setCell a u) D (hcells T) := fun h0 => by
  obtain ⟨g, off, e, hc⟩ := h h0
  refine ⟨g, off, e, fun k hk => ?_⟩
  have h1 := hc k hk
  refine (World.cell?_setCell_other w a ⟨g, off + k, none⟩ u fun e => ?_).trans h1
  first | rw [← e, hu] at h1 | rw [e, hu] at h1
  injection h1 with h1
  have hm := List.getElem_mem hk
  rw [← h1] at hm
  simp [hcells] at hm

/-- A list of heads of the call's own. -/
def HeadsGives (T : List Hd) (w : World) (e : Ending) (w' : World) : Prop := ∃ D d, e = .returned (.slice D T.length d) ∧ w'.ownsRow w.heap.size 45 4 (.slice D T.length d) T.length (hcells T) ∧ Below w.heap.size w w'

set_option maxHeartbeats 800000 in
theorem cloneHeads (A : Option Addr) (c : Nat) (l : List Hd) (w : World) (h0 : 0 < l.length) (hm : l.length * 32 ≤ 140737488351232) (hA : Row w A (hcells l)) :
    Calls Tryz.prog 48 #[.slice A l.length c] w (HeadsGives l w) := by
  have q : ∀ (w : World) (a : Option Addr) (n c n' c' : Nat), (binOp .eql 25 (.slice a n c) (.slice none n' c')).run Tryz.prog w = .ok (.bool a.isNone) w := fun w a n c n' c' => Lib.run_eql_slice_nil w _ _ a n c n' c' Tryz.underlying25
  obtain ⟨g, off, rfl, _⟩ := hA (by rw [hcells_length]; omega)
  have hown := World.ownsRow_made (e := 45) (size := 4) w #[] 0 (Nat.le_refl w.heap.size) (Nat.zero_le _) rfl
  have hA1 := hA.alloc (.cells #[] 45)
  have hb0 : Below w.heap.size w (w.alloc (.cells #[] 45)) := (Below.refl _ w).alloc (Nat.le_refl _) _
  obtain ⟨v1, w1, hrun, hown1, hgrow1⟩ := run_appH _ 25 w.heap.size _ [] hown (some ⟨g, off, none⟩) c l hA1 h0 (by simp; omega) hb0.size
  have hb1 := hb0.grown hgrow1 hb0.size (fun k hk => (hown.lt k hk).1)
  rw [List.nil_append] at hown1
  clear hA hA1
  go_enter Tryz.func48, Tryz.ntmps48
  go_wp2_with (at_builtin; refine app_run _ rfl _ _ _ _ rfl _ _ _ _ rfl rfl hrun ?_)
  obtain ⟨D, d, rfl⟩ := own_shape hown1
  go_ret
  exact ⟨D, d, rfl, hown1, hb1⟩
end Go.Proofs.YtjcockcilkiggaaGreat
/- The reference: SameHeads returns whether two lists of heads are the same. It writes nothing. -/
namespace Go.Proofs.YtjcockcilkiggaaGreat
set_option maxRecDepth 100000
open Go.RowKit

set_option maxHeartbeats 1000000 in
theorem refSameHeads (A C : Option Addr) (ca cc : Nat) (ss tt : List Hd) (w : World) (hm : ss.length ≤ maxLen) (b : Bool) (hb : decide (ss = tt) = b)
    (hA : Row w A (hcells ss)) (hC : Row w C (hcells tt)) :
    Calls Tryz.prog 24 #[.slice A ss.length ca, .slice C tt.length cc] w fun e w' => e = .returned (.bool b) ∧ ∃ m, w' = w.drewN m := by
  unfold maxLen at hm
  by_cases hlen : ss.length = tt.length
  · have HB := Lib.hid hb
    clear hb
    have HL := Lib.hid hlen
    have hne : ((ss.length : Int) != (tt.length : Int)) = false := by simp [hlen]
    clear hlen
    go_enter Tryz.func24, Tryz.ntmps24
    go_wp2
    go_loopw [13] (fun i wr => ∃ k m : Nat, k ≤ ss.length ∧ i = .int .i64 k ∧ wr = w.drewN m ∧ Hid (ss.take k = tt.take k)) (fun i _ => ss.length - (intOf i).toNat)
    case atStart => exact ⟨0, 0, Nat.zero_le _, rfl, rfl, rfl⟩
    case round =>
      obtain ⟨k, m, hk, rfl, rfl, hpre⟩ := hrel
      by_cases hlt : k < ss.length
      · have hlt' : k < tt.length := by have := HL.out; omega
        obtain ⟨g, off, rfl, h1, h2, h3, h4⟩ := hA.head k hlt
        obtain ⟨g', off', rfl, j1, j2, j3, j4⟩ := hC.head k hlt'
        have hi0 : (0 : Int) ≤ (k : Int) := by omega
        have hi1 : (k : Int) < (ss.length : Int) := by omega
        have hi2 : (k : Int) < (tt.length : Int) := by omega
        clear hA hC
        have HS : Hid (ss[k] = tt[k] → ss.take (k + 1) = tt.take (k + 1)) := by
          show _ → _
          intro e1
          rw [List.take_succ_eq_append_getElem hlt, List.take_succ_eq_append_getElem hlt', hpre.out, e1]
        have HN : Hid (¬ ss[k] = tt[k] → b = false) := by
          show _ → _
          intro h
          rw [← HB.out, decide_eq_false_iff_not]
          rintro rfl
          exact h rfl
        obtain ⟨⟨a1, a2, a3, a4⟩, hx⟩ : ∃ x, ss[k] = x := ⟨_, rfl⟩
        obtain ⟨⟨b1, b2, b3, b4⟩, hy⟩ : ∃ x, tt[k] = x := ⟨_, rfl⟩
        rw [hx] at h1 h2 h3 h4
        rw [hy] at j1 j2 j3 j4
        rw [hx, hy] at HS HN
        clear hx hy
        dsimp only at h1 h2 h3 h4 j1 j2 j3 j4
        have fin : ∀ (x y z u : Bool), (a1 == b1) = x → ((a2 : Int) == (b2 : Int)) = y → ((a3 : Int) == (b3 : Int)) = z → (a4 == b4) = u → (x && (y && (z && u))) = false → b = false := by
          intro x y z u e1 e2 e3 e4 h
          refine HN.out fun e => ?_
          simp only [Prod.mk.injEq] at e
          obtain ⟨rfl, rfl, rfl, rfl⟩ := e
          simp at e1 e2 e3 e4
          subst e1; subst e2; subst e3; subst e4
          exact absurd h (by decide)
        have fin2 : (a1 == b1) = true → ((a2 : Int) == (b2 : Int)) = true → ((a3 : Int) == (b3 : Int)) = true → (a4 == b4) = true → ss.take (k + 1) = tt.take (k + 1) := by
          intro e1 e2 e3 e4
          refine HS.out ?_
          rw [beq_iff_eq] at e1 e2 e3 e4
          rw [e1, e4, Int.ofNat_inj.1 e2, Int.ofNat_inj.1 e3]
        cases c1 : a1 == b1 with
        | false =>
          have HF := Lib.hid (fin _ _ _ _ c1 rfl rfl rfl (by simp))
          clear HS HN fin fin2
          go_wp2
          go_quiet (fail)
          go_wp2
          go_ret
          exact ⟨by rw [HF.out]; rfl, _, World.drewN_drewN _ _ _⟩
        | true =>
        cases c2 : (a2 : Int) == (b2 : Int) with
        | false =>
          have HF := Lib.hid (fin _ _ _ _ c1 c2 rfl rfl (by simp))
          clear HS HN fin fin2
          go_wp2
          go_quiet (fail)
          go_wp2
          go_ret
          exact ⟨by rw [HF.out]; rfl, _, World.drewN_drewN _ _ _⟩
        | true =>
        cases c3 : (a3 : Int) == (b3 : Int) with
        | false =>
          have HF := Lib.hid (fin _ _ _ _ c1 c2 c3 rfl (by simp))
          clear HS HN fin fin2
          go_wp2
          go_quiet (fail)
          go_wp2
          go_ret
          exact ⟨by rw [HF.out]; rfl, _, World.drewN_drewN _ _ _⟩
        | true =>
        cases c4 : a4 == b4 with
        | false =>
          have HF := Lib.hid (fin _ _ _ _ c1 c2 c3 c4 (by simp))
          clear HS HN fin fin2
          go_wp2
          go_quiet (fail)
          go_wp2
          go_ret
          exact ⟨by rw [HF.out]; rfl, _, World.drewN_drewN _ _ _⟩
        | true =>
          have HS' := Lib.hid (fin2 c1 c2 c3 c4)
          clear HS HN fin fin2
          go_wp2
          go_quiet (fail)
          go_wp2
          go_roundw
          case rel => exact ⟨k + 1, _, by omega, by go_num, rfl, HS'⟩
          case measure => simp [intOf]; omega
      · have HF : Hid (b = true) := by
          show b = true
          rw [← HB.out, decide_eq_true_eq]
          have := hpre.out
          have e2 := HL.out
          rwa [List.take_of_length_le (by omega), List.take_of_length_le (by omega)] at this
        go_wp2
        go_ret
        exact ⟨by rw [HF.out]; rfl, _, rfl⟩
  · have hne : ((ss.length : Int) != (tt.length : Int)) = true := by simp; omega
    have HF : Hid (b = false) := by
      show b = false
      rw [← hb, decide_eq_false_iff_not]
      rintro rfl
      exact hlen rfl
    clear hlen hb
    go_enter Tryz.func24, Tryz.ntmps24
    go_wp2
    go_ret
    exact ⟨by rw [HF.out]; rfl, 0, rfl⟩
end Go.Proofs.YtjcockcilkiggaaGreat
/- Rows of uint64. -/
namespace Go.Proofs.YtjcockcilkiggaaGreat
set_option maxRecDepth 100000
open Go.RowKit

def mcells (ss : List Nat) : List Value := ss.map fun z : Nat => .int .u64 (z : Int)
theorem mcells_length (ss : List Nat) : (mcells ss).length = ss.length := by simp [mcells]
theorem mcells_append (a b : List Nat) : mcells (a ++ b) = mcells a ++ mcells b := by simp [mcells]
theorem Row.mark {w : World} {A : Option Addr} {ss : List Nat} (h : Row w A (mcells ss)) (k : Nat) (hk : k < ss.length) : ∃ g off, A = some ⟨g, off, none⟩ ∧ w.cell? ⟨g, off + k, none⟩ = some (.int .u64 (ss[k] : Int)) := by
  obtain ⟨g, off, e, hc⟩ := h (by rw [mcells_length]; omega)
  refine ⟨g, off, e, ?_⟩
  rw [hc k (by rw [mcells_length]; exact hk)]
  simp [mcells]
set_option maxRecDepth 100000 in
theorem u64_info : ∃ i, Tryz.prog.info? 29 = some i ∧ i.zero = some (.int .u64 0) ∧ i.size = 1 ∧ i.bytes = 8 := by
  refine ⟨_, rfl, ?_, ?_, ?_⟩ <;> rfl

section
variable {ops : Array Oper} {rest : List Oper} {o : Oper} {a : Act} {Q : Exit → Act → World → Prop}
end
theorem mark_one (w : World) (z : Nat) (t : TypeId) : ∀ j u, (mcells [z])[j]? = some u → (w.alloc (.cells #[.int .u64 (z : Int)] t)).cell? ((⟨w.heap.size, 0, none⟩ : Addr).add j) = some u := by
  intro j u hu
  rw [Go.WideShapes.add_plain, Nat.zero_add, World.cell?_alloc_new]
  simpa [mcells] using hu


end Go.Proofs.YtjcockcilkiggaaGreat
/- The reference: SameBook returns whether two books are the same. It writes nothing that was there. -/
namespace Go.Proofs.YtjcockcilkiggaaGreat
set_option maxRecDepth 100000
open Go.RowKit

set_option maxRecDepth 100000 in
set_option maxHeartbeats 400000 in
theorem refSameBook (A C : Option Addr) (ca cc : Nat) (ss tt : List Ent) (w : World) (hm : ss.length ≤ maxLen) (b : Bool) (hb : decide (ss = tt) = b)
    (hA : Row w A (encells ss)) (hC : Row w C (encells tt)) :
    Calls Tryz.prog 25 #[.slice A ss.length ca, .slice C tt.length cc] w fun e w' => e = .returned (.bool b) ∧ ∃ m, w' = w.drewN m := by
  unfold maxLen at hm
  by_cases hlen : ss.length = tt.length
  · have HB := Lib.hid hb
    clear hb
    have HL := Lib.hid hlen
    have hne : ((ss.length : Int) != (tt.length : Int)) = false := by simp [hlen]
    have hl1 : ss.length ≤ tt.length := by omega
    clear hlen
    go_enter Tryz.func25, Tryz.ntmps25
    go_wp2
    go_loopw [13] (fun i wr => ∃ k m : Nat, k ≤ ss.length ∧ i = .int .i64 k ∧ wr = w.drewN m ∧ Hid (ss.take k = tt.take k)) (fun i _ => ss.length - (intOf i).toNat)
    case atStart => exact ⟨0, 0, Nat.zero_le _, rfl, rfl, rfl⟩
    case round =>
      obtain ⟨k, m, hk, rfl, rfl, hpre⟩ := hrel
      by_cases hlt : k < ss.length
      · have hlt' : k < tt.length := by omega
        obtain ⟨g, off, rfl, h1, h2⟩ := hA.ent k hlt
        obtain ⟨g', off', rfl, h3, h4⟩ := hC.ent k hlt'
        have hi0 : (0 : Int) ≤ (k : Int) := by omega
        have hi1 : (k : Int) < (ss.length : Int) := by omega
        have hi2 : (k : Int) < (tt.length : Int) := by omega
        clear hA hC
        have HS : Hid (ss[k].1 = tt[k].1 → ss[k].2 = tt[k].2 → ss.take (k + 1) = tt.take (k + 1)) := by
          show _ → _ → _
          intro e1 e2
          rw [List.take_succ_eq_append_getElem hlt, List.take_succ_eq_append_getElem hlt', hpre.out, Prod.ext e1 e2]
        have HN : Hid (¬ (ss[k].1 = tt[k].1 ∧ ss[k].2 = tt[k].2) → b = false) := by
          show _ → _
          intro h
          rw [← HB.out, decide_eq_false_iff_not]
          rintro rfl
          exact h ⟨rfl, rfl⟩
        generalize ss[k].1 = a1 at *
        generalize ss[k].2 = a2 at *
        generalize tt[k].1 = b1 at *
        generalize tt[k].2 = b2 at *
        have c1 : (a1 == b1) = true ∨ (a1 == b1) = false := by cases a1 == b1 <;> simp
        have c2 : (a2 == b2) = true ∨ (a2 == b2) = false := by cases a2 == b2 <;> simp
        rcases c1 with c1 | c1
        · rcases c2 with c2 | c2
          · have HS' := Lib.hid (HS.out (beq_iff_eq.1 c1) (beq_iff_eq.1 c2))
            clear HS HN
            go_wp2
            go_quiet (fail)
            go_wp2
            go_roundw
            case rel => exact ⟨k + 1, _, by omega, by go_num, rfl, HS'⟩
            case measure => simp [intOf]; omega
          · have HF := Lib.hid (HN.out (fun h => by rw [beq_eq_false_iff_ne] at c2; exact c2 h.2))
            clear HS HN
            go_wp2
            go_quiet (fail)
            go_wp2
            go_ret
            exact ⟨by rw [HF.out]; rfl, _, World.drewN_drewN _ _ _⟩
        · have HF := Lib.hid (HN.out (fun h => by rw [beq_eq_false_iff_ne] at c1; exact c1 h.1))
          clear HS HN c2
          go_wp2
          go_quiet (fail)
          go_wp2
          go_ret
          exact ⟨by rw [HF.out]; rfl, _, World.drewN_drewN _ _ _⟩
      · have HF : Hid (b = true) := by
          show b = true
          rw [← HB.out, decide_eq_true_eq]
          have := hpre.out
          have e2 := HL.out
          rwa [List.take_of_length_le (by omega), List.take_of_length_le (by omega)] at this
        go_wp2
        go_ret
        exact ⟨by rw [HF.out]; rfl, _, rfl⟩
  · have hne : ((ss.length : Int) != (tt.length : Int)) = true := by simp; omega
    have HF : Hid (b = false) := by
      show b = false
      rw [← hb, decide_eq_false_iff_not]
      rintro rfl
      exact hlen rfl
    clear hlen hb
    go_enter Tryz.func25, Tryz.ntmps25
    go_wp2
    go_ret
    exact ⟨by rw [HF.out]; rfl, 0, rfl⟩
end Go.Proofs.YtjcockcilkiggaaGreat
