/- Rows of requests: their cells, what append and slices.Clone make of them. -/
import Derived.Test.YtjcockcilkiggaaGreatJ01
import Derived.Lib.SliceRun
import Derived.Handy
namespace Go.Proofs.YtjcockcilkiggaaGreat
set_option maxRecDepth 100000
open Go.RowKit

/-- A request: its name, value, number and tag. -/
abbrev Ak := Bytes × Bytes × Nat × Nat
/-- The cells of a list of requests. -/
def qcells (l : List Ak) : List Value := l.flatMap fun h => [.string (S h.1), .string (S h.2.1), .int .u64 (h.2.2.1 : Int), .int .u64 (h.2.2.2 : Int)]
theorem qcells_cons (x : Ak) (l : List Ak) : qcells (x :: l) = .string (S x.1) :: .string (S x.2.1) :: .int .u64 (x.2.2.1 : Int) :: .int .u64 (x.2.2.2 : Int) :: qcells l := rfl
theorem qcells_length (l : List Ak) : (qcells l).length = l.length * 4 := by
  induction l with
  | nil => rfl
  | cons x l ih =>
    rw [qcells_cons, List.length_cons, List.length_cons, List.length_cons, List.length_cons, ih, List.length_cons]
    omega
theorem qcells_append (a b : List Ak) : qcells (a ++ b) = qcells a ++ qcells b := by simp [qcells]
theorem qcells_get (l : List Ak) (k : Nat) (h : k < l.length) :
    (qcells l)[k * 4]? = some (.string (S l[k].1)) ∧ (qcells l)[k * 4 + 1]? = some (.string (S l[k].2.1)) ∧ (qcells l)[k * 4 + 2]? = some (.int .u64 (l[k].2.2.1 : Int)) ∧ (qcells l)[k * 4 + 3]? = some (.int .u64 (l[k].2.2.2 : Int)) := by
  induction l generalizing k with
  | nil => simp at h
  | cons x l ih =>
    rw [qcells_cons]
    cases k with
    | zero => exact ⟨rfl, rfl, rfl, rfl⟩
    | succ k =>
      have := ih k (by simpa using h)
      rw [show (k + 1) * 4 = k * 4 + 1 + 1 + 1 + 1 by omega, show k * 4 + 1 + 1 + 1 + 1 + 1 = (k * 4 + 1) + 1 + 1 + 1 + 1 by omega, show k * 4 + 1 + 1 + 1 + 1 + 2 = (k * 4 + 2) + 1 + 1 + 1 + 1 by omega, show k * 4 + 1 + 1 + 1 + 1 + 3 = (k * 4 + 3) + 1 + 1 + 1 + 1 by omega]
      simpa using this
theorem Row.ask {w : World} {A : Option Addr} {l : List Ak} (h : Row w A (qcells l)) (k : Nat) (hk : k < l.length) :
    ∃ g off, A = some ⟨g, off, none⟩ ∧ w.cell? ⟨g, off + k * 4, none⟩ = some (.string (S l[k].1)) ∧ w.cell? ⟨g, off + k * 4 + 1, none⟩ = some (.string (S l[k].2.1)) ∧ w.cell? ⟨g, off + k * 4 + 2, none⟩ = some (.int .u64 (l[k].2.2.1 : Int)) ∧ w.cell? ⟨g, off + k * 4 + 3, none⟩ = some (.int .u64 (l[k].2.2.2 : Int)) := by
  obtain ⟨g, off, e, hc⟩ := h (by rw [qcells_length]; omega)
  have hg := qcells_get l k hk
  have h0 := hc (k * 4) (by rw [qcells_length]; omega)
  have h1 := hc (k * 4 + 1) (by rw [qcells_length]; omega)
  have h2 := hc (k * 4 + 2) (by rw [qcells_length]; omega)
  have h3 := hc (k * 4 + 3) (by rw [qcells_length]; omega)
  obtain ⟨l0, e0⟩ := List.getElem?_eq_some_iff.1 hg.1
  obtain ⟨l1, e1⟩ := List.getElem?_eq_some_iff.1 hg.2.1
  obtain ⟨l2, e2⟩ := List.getElem?_eq_some_iff.1 hg.2.2.1
  obtain ⟨l3, e3⟩ := List.getElem?_eq_some_iff.1 hg.2.2.2
  rw [e0] at h0
  rw [e1] at h1
  rw [e2] at h2
  rw [e3] at h3
  exact ⟨g, off, e, h0, by rw [Nat.add_assoc]; exact h1, by rw [Nat.add_assoc]; exact h2, by rw [Nat.add_assoc]; exact h3⟩
/-- The first request. -/
theorem Row.ask0 {w : World} {A : Option Addr} {x : Ak} {l : List Ak} (h : Row w A (qcells (x :: l))) :
    ∃ g off, A = some ⟨g, off, none⟩ ∧ w.cell? ⟨g, off, none⟩ = some (.string (S x.1)) ∧ w.cell? ⟨g, off + 1, none⟩ = some (.string (S x.2.1)) ∧ w.cell? ⟨g, off + 2, none⟩ = some (.int .u64 (x.2.2.1 : Int)) ∧ w.cell? ⟨g, off + 3, none⟩ = some (.int .u64 (x.2.2.2 : Int)) := by
  obtain ⟨g, off, e, h0, h1, h2, h3⟩ := h.ask 0 (by simp)
  exact ⟨g, off, e, by simpa using h0, by simpa using h1, by simpa using h2, by simpa using h3⟩
theorem qcells_take (l : List Ak) (p : Nat) : qcells (l.take p) = (qcells l).take (p * 4) := by
  induction l generalizing p with
  | nil => simp [qcells]
  | cons x l ih =>
    cases p with
    | zero => simp [qcells]
    | succ p => rw [List.take_succ_cons, qcells_cons, qcells_cons, ih p, show (p + 1) * 4 = p * 4 + 1 + 1 + 1 + 1 by omega, List.take_succ_cons, List.take_succ_cons, List.take_succ_cons, List.take_succ_cons]
theorem qcells_drop (l : List Ak) (p : Nat) : qcells (l.drop p) = (qcells l).drop (p * 4) := by
  induction l generalizing p with
  | nil => simp [qcells]
  | cons x l ih =>
    cases p with
    | zero => simp [qcells]
    | succ p => rw [List.drop_succ_cons, qcells_cons, ih p, show (p + 1) * 4 = p * 4 + 1 + 1 + 1 + 1 by omega, List.drop_succ_cons, List.drop_succ_cons, List.drop_succ_cons, List.drop_succ_cons]
theorem Row.takeQ {w : World} {A : Option Addr} {l : List Ak} (h : Row w A (qcells l)) (p : Nat) : Row w A (qcells (l.take p)) := by rw [qcells_take]; exact h.take _
theorem Row.dropQ {w : World} {A : Option Addr} {l : List Ak} (h : Row w A (qcells l)) (p : Nat) : Row w (A.map (·.add (p * 4))) (qcells (l.drop p)) := by rw [qcells_drop]; exact h.drop _
theorem ak_one (l : List Ak) : ∀ u ∈ qcells l, u.oneCell' = true := fun u hu => by
  obtain ⟨y, _, hy⟩ := List.mem_flatMap.1 hu
  simp only [List.mem_cons, List.not_mem_nil, or_false] at hy
  rcases hy with rfl | rfl | rfl | rfl <;> rfl

theorem ak_info : ∃ i, Tryz.prog.info? 31 = some i ∧ i.zero = some (.agg #[.string ⟨#[]⟩, .string ⟨#[]⟩, .int .u64 0, .int .u64 0]) ∧ i.size = 4 ∧ i.bytes = 48 := by
  have h : (Tryz.prog.info? 31).map (fun i => (i.zero, i.size, i.bytes)) = some (some (.agg #[.string ⟨#[]⟩, .string ⟨#[]⟩, .int .u64 0, .int .u64 0]), 4, 48) := by kernel_rfl
  obtain ⟨i, hi, he⟩ := Option.map_eq_some_iff.1 h
  simp only [Prod.mk.injEq] at he
  exact ⟨i, hi, he.1, he.2.1, he.2.2⟩
/-- append onto a row of the call's own: the run itself. -/
theorem run_appQ (w : World) (ty : TypeId) (base : Nat) (v : Value) (l : List Ak) (hown : w.ownsRow base 31 4 v l.length (qcells l))
    (B : Option Addr) (c : Nat) (r : List Ak) (hB : Row w B (qcells r)) (hr : 0 < r.length) (hsmall : (l.length + r.length) * 48 ≤ 140737488355328) (hbase : base ≤ w.heap.size) :
    ∃ v' w', (Builtin.append_ #[22, 22] ty #[v, .slice B r.length c]).run Tryz.prog w = .ok v' w' ∧ w'.ownsRow base 31 4 v' (l ++ r).length (qcells (l ++ r)) ∧ w.grownBy w' v.ownBlock := by
  obtain ⟨i0, hi, hz0, hz1, hz2⟩ := ak_info
  obtain ⟨gb, off, rfl, hc⟩ := hB (by rw [qcells_length]; omega)
  have hnews : ∀ j u, (qcells r)[j]? = some u → w.cell? ((⟨gb, off, none⟩ : Addr).add j) = some u := fun j u hu => by
    obtain ⟨hj, rfl⟩ := List.getElem?_eq_some_iff.1 hu
    rw [Go.WideShapes.add_plain]
    exact hc j hj
  obtain ⟨v', w', h1, h2, h3, _⟩ := run_append_own (P := Tryz.prog) (w := w) base 22 ty 31 i0 (.agg #[.string ⟨#[]⟩, .string ⟨#[]⟩, .int .u64 0, .int .u64 0]) 4 48 Tryz.underlying22 hi hz0 hz1 hz2 rfl (by decide) v l.length (qcells l) hown ⟨gb, off, none⟩ r.length c (qcells r) (qcells_length r) hnews (ak_one r) (by unfold maxLen; omega) hsmall hbase
  exact ⟨v', w', h1, by rw [List.length_append, qcells_append]; exact h2, h3⟩

/-- append onto a row of the call's own, as one step of a region that draws. -/
theorem step_app_asks {ops : Array Oper} {o : Oper} {a : Act} {w : World} {K : Act → World → Prop} {Q : Exit → Act → World → Prop} {E : Prop} (hgd : o.guard = none) (s x : Operand)
    (ho : o.op = .call { callee := .builtin .append, args := #[s, x], argTypes := #[22, 22] })
    (base : Nat) (v : Value) (l : List Ak) (hs : a.eval s = v) (hown : w.ownsRow base 31 4 v l.length (qcells l))
    (B : Option Addr) (c : Nat) (r : List Ak) (hx : a.eval x = .slice B r.length c) (hB : Row w B (qcells r)) (hr : 0 < r.length) (hsmall : (l.length + r.length) * 48 ≤ 140737488355328) (hbase : base ≤ w.heap.size)
    (h : ∀ v' w', w'.ownsRow base 31 4 v' (l ++ r).length (qcells (l ++ r)) → w.grownBy w' v.ownBlock → K (a.put o.dst v') w') :
    if Region.wanted o (yielded ops a.tmps) = true then Oper.wp Tryz.prog o a w K Q else E := by
  have hw : Region.wanted o (yielded ops a.tmps) = true := by simp [Region.wanted, hgd]
  rw [if_pos hw]
  obtain ⟨v', w', hrun, h1, h2⟩ := run_appQ w o.type base v l hown B c r hB hr hsmall hbase
  unfold Oper.wp
  simp [execOp, ho, resolve, invoke, builtin, hs, hx, hrun, Result.andThen]
  exact h v' w' h1 h2
/-- .. and in a straight line. -/
theorem app_asks {ops : Array Oper} {rest : List Oper} {o : Oper} {a : Act} {Q : Exit → Act → World → Prop} (w : World) (hgd : o.guard = none) (s x : Operand)
    (ho : o.op = .call { callee := .builtin .append, args := #[s, x], argTypes := #[22, 22] })
    (base : Nat) (v : Value) (l : List Ak) (hs : a.eval s = v) (hown : w.ownsRow base 31 4 v l.length (qcells l))
    (B : Option Addr) (c : Nat) (r : List Ak) (hx : a.eval x = .slice B r.length c) (hB : Row w B (qcells r)) (hr : 0 < r.length) (hsmall : (l.length + r.length) * 48 ≤ 140737488355328) (hbase : base ≤ w.heap.size)
    (h : ∀ v' w', w'.ownsRow base 31 4 v' (l ++ r).length (qcells (l ++ r)) → w.grownBy w' v.ownBlock → wpList Tryz.prog ops Q rest (a.put o.dst v') w') : wpList Tryz.prog ops Q (o :: rest) a w := by
  obtain ⟨v', w', hrun, h1, h2⟩ := run_appQ w o.type base v l hown B c r hB hr hsmall hbase
  exact app_run w hgd s x _ _ ho v _ v' w' hs hx hrun (h v' w' h1 h2)
/-- One request in a block just made. -/
theorem ask_one (w : World) (h : Ak) (t : TypeId) : Row (w.alloc (.cells #[.string (S h.1), .string (S h.2.1), .int .u64 (h.2.2.1 : Int), .int .u64 (h.2.2.2 : Int)] t)) (some ⟨w.heap.size, 0, none⟩) (qcells [h]) := Row.new w _ _ _ t rfl rfl
/-- A list of requests of the call's own. -/
def AsksGives (T : List Ak) (w : World) (e : Ending) (w' : World) : Prop := ∃ D d, e = .returned (.slice D T.length d) ∧ w'.ownsRow w.heap.size 31 4 (.slice D T.length d) T.length (qcells T) ∧ Below w.heap.size w w'

set_option maxHeartbeats 800000 in
theorem cloneAsks (A : Option Addr) (c : Nat) (l : List Ak) (w : World) (h0 : 0 < l.length) (hm : l.length * 48 ≤ 140737488351232) (hA : Row w A (qcells l)) :
    Calls Tryz.prog 47 #[.slice A l.length c] w (AsksGives l w) := by
  have q : ∀ (w : World) (a : Option Addr) (n c n' c' : Nat), (binOp .eql 22 (.slice a n c) (.slice none n' c')).run Tryz.prog w = .ok (.bool a.isNone) w := fun w a n c n' c' => Lib.run_eql_slice_nil w _ _ a n c n' c' Tryz.underlying22
  obtain ⟨g, off, rfl, _⟩ := hA (by rw [qcells_length]; omega)
  have hown := World.ownsRow_made (e := 31) (size := 4) w #[] 0 (Nat.le_refl w.heap.size) (Nat.zero_le _) rfl
  have hA1 := hA.alloc (.cells #[] 31)
  have hb0 : Below w.heap.size w (w.alloc (.cells #[] 31)) := (Below.refl _ w).alloc (Nat.le_refl _) _
  obtain ⟨v1, w1, hrun, hown1, hgrow1⟩ := run_appQ _ 22 w.heap.size _ [] hown (some ⟨g, off, none⟩) c l hA1 h0 (by simp; omega) hb0.size
  have hb1 := hb0.grown hgrow1 hb0.size (fun k hk => (hown.lt k hk).1)
  rw [List.nil_append] at hown1
  clear hA hA1
  go_enter Tryz.func47, Tryz.ntmps47
  go_wp2_with (at_builtin; refine app_run _ rfl _ _ _ _ rfl _ _ _ _ rfl rfl hrun ?_)
  obtain ⟨D, d, rfl⟩ := own_shape hown1
  go_ret
  exact ⟨D, d, rfl, hown1, hb1⟩
end Go.Proofs.YtjcockcilkiggaaGreat
/- slices.Equal at requests returns whether two lists of requests are the same. It writes nothing. -/
namespace Go.Proofs.YtjcockcilkiggaaGreat
set_option maxRecDepth 100000
open Go.RowKit


set_option maxHeartbeats 1000000 in
theorem refSameAsks (A C : Option Addr) (ca cc : Nat) (ss tt : List Ak) (w : World) (hm : ss.length ≤ maxLen) (b : Bool) (hb : decide (ss = tt) = b)
    (hA : Row w A (qcells ss)) (hC : Row w C (qcells tt)) :
    Calls Tryz.prog 53 #[.slice A ss.length ca, .slice C tt.length cc] w fun e w' => e = .returned (.bool b) ∧ ∃ m, w' = w.drewN m := by
  unfold maxLen at hm
  by_cases hlen : ss.length = tt.length
  · have HB := Lib.hid hb
    clear hb
    have HL := Lib.hid hlen
    have hne : ((ss.length : Int) != (tt.length : Int)) = false := by simp [hlen]
    clear hlen
    go_enter Tryz.func53, Tryz.ntmps53
    go_wp2
    go_loopw [13] (fun i wr => ∃ k m : Nat, k ≤ ss.length ∧ i = .int .i64 k ∧ wr = w.drewN m ∧ Hid (ss.take k = tt.take k)) (fun i _ => ss.length - (intOf i).toNat)
    case atStart => exact ⟨0, 0, Nat.zero_le _, rfl, rfl, rfl⟩
    case round =>
      obtain ⟨k, m, hk, rfl, rfl, hpre⟩ := hrel
      by_cases hlt : k < ss.length
      · have hlt' : k < tt.length := by have := HL.out; omega
        obtain ⟨g, off, rfl, h1, h2, h3, h4⟩ := hA.ask k hlt
        obtain ⟨g', off', rfl, j1, j2, j3, j4⟩ := hC.ask k hlt'
        have hi0 : (0 : Int) ≤ (k : Int) := by omega
        have hi1 : (k : Int) < (ss.length : Int) := by omega
        have hi2 : (k : Int) < (tt.length : Int) := by omega
        clear hA hC
        have HS : Hid (ss[k] = tt[k] → ss.take (k + 1) = tt.take (k + 1)) := by
          show _ → _
          intro e1
          rw [List.take_succ_eq_append_getElem hlt, List.take_succ_eq_append_getElem hlt', hpre.out, e1]
        have HN : Hid (¬ ss[k] = tt[k] → b = false) := by
          show _ → _
          intro h
          rw [← HB.out, decide_eq_false_iff_not]
          rintro rfl
          exact h rfl
        obtain ⟨⟨a1, a2, a3, a4⟩, hx⟩ : ∃ x, ss[k] = x := ⟨_, rfl⟩
        obtain ⟨⟨b1, b2, b3, b4⟩, hy⟩ : ∃ x, tt[k] = x := ⟨_, rfl⟩
        rw [hx] at h1 h2 h3 h4
        rw [hy] at j1 j2 j3 j4
        rw [hx, hy] at HS HN
        clear hx hy
        dsimp only at h1 h2 h3 h4 j1 j2 j3 j4
        have fin : ∀ (x y z u : Bool), (a1 == b1) = x → (a2 == b2) = y → ((a3 : Int) == (b3 : Int)) = z → ((a4 : Int) == (b4 : Int)) = u → (x && (y && (z && u))) = false → b = false := by
          intro x y z u e1 e2 e3 e4 h
          refine HN.out fun e => ?_
          simp only [Prod.mk.injEq] at e
          obtain ⟨rfl, rfl, rfl, rfl⟩ := e
          simp at e1 e2 e3 e4
          subst e1; subst e2; subst e3; subst e4
          exact absurd h (by decide)
        have fin2 : (a1 == b1) = true → (a2 == b2) = true → ((a3 : Int) == (b3 : Int)) = true → ((a4 : Int) == (b4 : Int)) = true → ss.take (k + 1) = tt.take (k + 1) := by
          intro e1 e2 e3 e4
          refine HS.out ?_
          rw [beq_iff_eq] at e1 e2 e3 e4
          rw [e1, e2, Int.ofNat_inj.1 e3, Int.ofNat_inj.1 e4]
        cases c1 : a1 == b1 with
        | false =>
          have HF := Lib.hid (fin _ _ _ _ c1 rfl rfl rfl (by simp))
          clear HS HN fin fin2
          go_wp2
          go_quiet (fail)
          go_wp2
          go_ret
          exact ⟨by rw [HF.out]; rfl, _, World.drewN_drewN _ _ _⟩
        | true =>
        cases c2 : a2 == b2 with
        | false =>
          have HF := Lib.hid (fin _ _ _ _ c1 c2 rfl rfl (by simp))
          clear HS HN fin fin2
          go_wp2
          go_quiet (fail)
          go_wp2
          go_ret
          exact ⟨by rw [HF.out]; rfl, _, World.drewN_drewN _ _ _⟩
        | true =>
        cases c3 : (a3 : Int) == (b3 : Int) with
        | false =>
          have HF := Lib.hid (fin _ _ _ _ c1 c2 c3 rfl (by simp))
          clear HS HN fin fin2
          go_wp2
          go_quiet (fail)
          go_wp2
          go_ret
          exact ⟨by rw [HF.out]; rfl, _, World.drewN_drewN _ _ _⟩
        | true =>
        cases c4 : (a4 : Int) == (b4 : Int) with
        | false =>
          have HF := Lib.hid (fin _ _ _ _ c1 c2 c3 c4 (by simp))
          clear HS HN fin fin2
          go_wp2
          go_quiet (fail)
          go_wp2
          go_ret
          exact ⟨by rw [HF.out]; rfl, _, World.drewN_drewN _ _ _⟩
        | true =>
          have HS' := Lib.hid (fin2 c1 c2 c3 c4)
          clear HS HN fin fin2
          go_wp2
          go_quiet (fail)
          go_wp2
          go_roundw
          case rel => exact ⟨k + 1, _, by omega, by go_num, rfl, HS'⟩
          case measure => simp [intOf]; omega
      · have HF : Hid (b = true) := by
          show b = true
          rw [← HB.out, decide_eq_true_eq]
          have := hpre.out
          have e2 := HL.out
          rwa [List.take_of_length_le (by omega), List.take_of_length_le (by omega)] at this
        go_wp2
        go_ret
        exact ⟨by rw [HF.out]; rfl, _, rfl⟩
  · have hne : ((ss.length : Int) != (tt.length : Int)) = true := by simp; omega
    have HF : Hid (b = false) := by
      show b = false
      rw [← hb, decide_eq_false_iff_not]
      rintro rfl
      exact hlen rfl
    clear hlen hb
    go_enter Tryz.func53, Tryz.ntmps53
    go_wp2
    go_ret
    exact ⟨by rw [HF.out]; rfl, 0, rfl⟩
end Go.Proofs.YtjcockcilkiggaaGreat
