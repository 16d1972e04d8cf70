/- The reference: ClerkAsk at a clerk that is right and has room: plain arithmetic of the time, and rows kept by stores elsewhere. -/
import Derived.Test.YtjcockcilkiggaaGreatJ32
import Derived.Test.YtjcockcilkiggaaGreatJ18
namespace Go.Proofs.YtjcockcilkiggaaGreat
set_option maxRecDepth 100000
open Go.RowKit

theorem own_far {W : World} {base g size n : Nat} {e : TypeId} {v : Value} {xs : List Value} (h : W.ownsRow base e size v n xs) (hne : ∀ k, v.ownBlock = some k → k ≠ g) (j : Nat) (u : Value) : (W.setCell ⟨g, j, none⟩ u).ownsRow base e size v n xs :=
  h.kept (row := some g) ⟨rfl, rfl, rfl, by simp [World.setCell], fun k _ hk => Below.heap_setCell _ _ _ k (fun e => hk (by rw [e]))⟩ (by
    cases hv : v.ownBlock with
    | none => exact .inl rfl
    | some k => exact .inr fun e => by injection e with e; exact hne k hv e)
/-- append in a straight line, and where the new row lies. -/
theorem app_asksAt {ops : Array Oper} {rest : List Oper} {o : Oper} {a : Act} {Q : Exit → Act → World → Prop} (w : World) (hgd : o.guard = none) (s x : Operand)
    (ho : o.op = .call { callee := .builtin .append, args := #[s, x], argTypes := #[22, 22] })
    (base : Nat) (v : Value) (l : List Ak) (hs : a.eval s = v) (hown : w.ownsRow base 31 4 v l.length (qcells l))
    (B : Option Addr) (c : Nat) (r : List Ak) (hx : a.eval x = .slice B r.length c) (hB : Row w B (qcells r)) (hsmall : (l.length + r.length) * 48 ≤ 140737488355328) (hbase : base ≤ w.heap.size)
    (h : ∀ v' w', w'.ownsRow base 31 4 v' (l ++ r).length (qcells (l ++ r)) → w.grownBy w' v.ownBlock → (v'.ownBlock = v.ownBlock ∨ v'.ownBlock = some w.heap.size) → wpList Tryz.prog ops Q rest (a.put o.dst v') w') : wpList Tryz.prog ops Q (o :: rest) a w := by
  obtain ⟨v', w', hrun, h1, h2, h3⟩ := run_appQat w o.type base v l hown B c r hB hsmall hbase
  exact app_run w hgd s x _ _ ho v _ v' w' hs hx hrun (h v' w' h1 h2 h3)
/-- The next time that an interval divides. -/
def nextAt (a v : Nat) : Nat := (a / v + 1) * v
theorem lt_nextAt (a v : Nat) (hv : 1 ≤ v) : a < nextAt a v := by
  have := Nat.div_add_mod a v
  have := Nat.mod_lt a (by omega : 0 < v)
  unfold nextAt
  rw [Nat.add_mul, Nat.one_mul, Nat.mul_comm]
  omega
theorem nextAt_mod (a v : Nat) : nextAt a v % v = 0 := Nat.mul_mod_left _ _
theorem nextAt_le (a v : Nat) : nextAt a v ≤ a + v := by
  have := Nat.div_add_mod a v
  unfold nextAt
  rw [Nat.add_mul, Nat.one_mul, Nat.mul_comm]
  omega
theorem nextAt_only {a v b : Nat} (hv : 1 ≤ v) (h1 : a < b) (h2 : b ≤ nextAt a v) (h3 : b % v = 0) : b = nextAt a v := by
  have e := Nat.div_add_mod b v
  rw [h3, Nat.add_zero] at e
  have e2 := Nat.div_add_mod a v
  have l1 : a / v ≤ b / v := Nat.div_le_div_right (by omega)
  have l2 : b / v ≤ a / v + 1 := by
    have := Nat.div_le_div_right (c := v) h2
    rwa [nextAt, Nat.mul_div_cancel _ (by omega)] at this
  have hne : b / v ≠ a / v := fun h => by rw [h] at e; omega
  have e3 : b / v = a / v + 1 := by omega
  rw [← e, e3, nextAt, Nat.mul_comm]
/-- When it is had, from a time on with so many ahead. -/
def dueN (a v left b : Nat) : Nat := (a / v) * v + (left / b + 1) * v
theorem due_last {a v left b : Nat} (h : left < b) : dueN a v left b = nextAt a v := by
  rw [dueN, Nat.div_eq_of_lt h, nextAt]
  simp only [Nat.add_mul, Nat.one_mul, Nat.zero_mul]
  omega
theorem due_next {a v left b : Nat} (hv : 1 ≤ v) (hb : 1 ≤ b) (h : b ≤ left) : dueN (nextAt a v) v (left - b) b = dueN a v left b := by
  have e1 : nextAt a v / v = a / v + 1 := by rw [nextAt, Nat.mul_div_cancel _ (by omega)]
  have e2 : left / b = (left - b) / b + 1 := by rw [← Nat.add_div_right _ (by omega : 0 < b), Nat.sub_add_cancel h]
  rw [dueN, dueN, e1, e2]
  simp only [Nat.add_mul, Nat.one_mul]
  omega
theorem nextAt_due (a v left b : Nat) : nextAt a v ≤ dueN a v left b := by
  rw [dueN, nextAt]
  simp only [Nat.add_mul, Nat.one_mul]
  omega
theorem dueOf_nat (N v b : Nat) (k : Ck) (h1 : k.now = (N : Int)) (h2 : k.every = (v : Int)) (h3 : k.batch = (b : Int)) : dueOf k = (dueN N v k.wait.length b : Nat) := by
  rw [dueOf, h1, h2, h3, dueN]
  have e := Nat.div_add_mod N v
  have : (N : Int) - (N : Int) % (v : Int) = ((N / v * v : Nat) : Int) := by
    have h : ((N : Nat) : Int) = ((v * (N / v) + N % v : Nat) : Int) := by rw [e]
    rw [Nat.mul_comm (N / v)]
    push_cast at h ⊢
    omega
  rw [this]
  push_cast
  rfl
end Go.Proofs.YtjcockcilkiggaaGreat
/- The reference: ClerkAsk at a clerk that is right and has room. It writes nothing that was there. -/
namespace Go.Proofs.YtjcockcilkiggaaGreat
set_option maxRecDepth 100000
open Go.RowKit

def AskedGives (most ba ev nw : Int) (l : List Ak) (hs : List Hd) (bs : List (List Ent)) (due : Int) (w : World) (x : Ending) (w' : World) : Prop :=
  ∃ D d E f F h qs, x = .returned (.tuple #[.agg #[.int .i64 most, .slice D l.length d, .int .i64 ba, .int .i64 ev, .int .i64 nw, .slice E hs.length f, .slice F qs.length h], .int .i64 due, .int .i64 0]) ∧ bks qs = bs ∧ OwnCk w' w.heap.size l hs D E F d f h qs ∧ Below w.heap.size w w'

set_option maxHeartbeats 8000000 in
theorem refClerkAsk_ok (most ba ev nw : Int) (l : List Ak) (hs : List Hd) (ps : List Bp) (A H B : Option Addr) (c d e : Nat) (n v : Bytes) (x t : Nat) (w : World) (hg : CkGood ⟨most, l, ba, ev, nw, hs, bks ps⟩) (hn : n.length ≤ maxLen) (hv : v.length ≤ maxLen)
    (hA : Row w A (qcells l)) (hB : Books w B ps) (hH : Row w H (hcells hs)) (hr : ckAskErr ⟨most, l, ba, ev, nw, hs, bks ps⟩ n v = 0) (due : Int) (hdue : dueOf ⟨most, l, ba, ev, nw, hs, bks ps⟩ = due) :
    Calls Tryz.prog 12 #[.agg #[.int .i64 most, .slice A l.length c, .int .i64 ba, .int .i64 ev, .int .i64 nw, .slice H hs.length d, .slice B ps.length e], .agg #[.string (S n), .string (S v), .int .u64 (x : Int), .int .u64 (t : Int)]] w (AskedGives most ba ev nw (l ++ [(n, v, x, t)]) hs (bks ps) due w) := by
  have hbk24 : ∀ p ∈ ps, p.2.2.length ≤ 1000 := fun p hp => by
    obtain ⟨i, hi, rfl⟩ := List.getElem_of_mem hp
    have hf := hg.form
    unfold formBad at hf
    dsimp only at hf
    rw [bks_length] at hf
    have := (hg.each i (by show i < (bks ps).length; rw [bks_length]; exact hi) (by show i < hs.length; omega)).1
    have e : (bks ps)[i]'(by rw [bks_length]; exact hi) = ps[i].2.2 := bks_get ps i hi
    have h24 := this.len
    have : ps[i].2.2.length ≤ 24 := e ▸ h24
    omega
  have hb0 : Below w.heap.size w (((w.alloc (.cells #[.int .i64 most, .slice A l.length c, .int .i64 ba, .int .i64 ev, .int .i64 nw, .slice H hs.length d, .slice B ps.length e] 28)).alloc (.cells #[.string (S n), .string (S v), .int .u64 (x : Int), .int .u64 (t : Int)] 31)).alloc (.cells #[.int .i64 0, .slice none 0 0, .int .i64 0, .int .i64 0, .int .i64 0, .slice none 0 0, .slice none 0 0] 28)) := (((Below.refl _ _).alloc (Nat.le_refl _) _).alloc (by simp) _).alloc (by simp; omega) _
  have x0 := ((Bx.new w _ rfl _ [.int .i64 most, .slice A l.length c, .int .i64 ba, .int .i64 ev, .int .i64 nw, .slice H hs.length d, .slice B ps.length e] 28 rfl).alloc (.cells #[.string (S n), .string (S v), .int .u64 (x : Int), .int .u64 (t : Int)] 31)).alloc (.cells #[.int .i64 0, .slice none 0 0, .int .i64 0, .int .i64 0, .int .i64 0, .slice none 0 0, .slice none 0 0] 28)
  have y0 := (Bx.new (w.alloc (.cells #[.int .i64 most, .slice A l.length c, .int .i64 ba, .int .i64 ev, .int .i64 nw, .slice H hs.length d, .slice B ps.length e] 28)) (w.heap.size + 1) (by simp) _ [.string (S n), .string (S v), .int .u64 (x : Int), .int .u64 (t : Int)] 31 rfl).alloc (.cells #[.int .i64 0, .slice none 0 0, .int .i64 0, .int .i64 0, .int .i64 0, .slice none 0 0, .slice none 0 0] 28)
  have z0 := Bx.new ((w.alloc (.cells #[.int .i64 most, .slice A l.length c, .int .i64 ba, .int .i64 ev, .int .i64 nw, .slice H hs.length d, .slice B ps.length e] 28)).alloc (.cells #[.string (S n), .string (S v), .int .u64 (x : Int), .int .u64 (t : Int)] 31)) (w.heap.size + 2) (by simp) _ [.int .i64 0, .slice none 0 0, .int .i64 0, .int .i64 0, .int .i64 0, .slice none 0 0, .slice none 0 0] 28 rfl
  obtain ⟨a0, a1, a2, a3, a4, a5, a6⟩ := x0.get7
  obtain ⟨⟨y1, y2, y3, y4⟩, _⟩ := y0.get4
  have hq : QGood most l := hg.queue
  have hl30 : l.length ≤ 30 := by have := hq.len; have := hq.m30; omega
  have hc40 : hs.length ≤ 40 := hg.chain.len
  have hc0 : 0 < hs.length := hg.chain.pos
  have hph : ps.length = hs.length := by
    have := hg.form
    unfold formBad at this
    dsimp only at this
    rw [bks_length] at this
    omega
  obtain ⟨m, hpm⟩ : ∃ m, ps.length = m + 1 := ⟨ps.length - 1, by omega⟩
  obtain ⟨bk, hbk⟩ : ∃ u, (ps[m]'(by omega)).2.2 = u := ⟨_, rfl⟩
  have hgd : Good bk := by
    have := (hg.each m (by show m < (bks ps).length; rw [bks_length]; omega) (by show m < hs.length; omega)).1
    have e : (bks ps)[m]'(by rw [bks_length]; omega) = bk := by rw [bks_get ps m (by omega), hbk]
    exact e ▸ this
  have hlb : lastBk ⟨most, l, ba, ev, nw, hs, bks ps⟩ = bk := by
    rw [lastBk_at (m := m) (by show (bks ps).length = _; rw [bks_length]; exact hpm)]
    show (bks ps)[m]'_ = bk
    rw [bks_get ps m (by omega), hbk]
  have hF := fun (w : World) => Lib.hid (refAskFault n v w hn hv _ rfl)
  have hCl := fun (w : World) => Lib.hid (refClosed most ba ev nw A H B l.length c hs.length d ps.length e w _ rfl)
  obtain ⟨nn, hnn⟩ : ∃ u, (Bin.srt (namesOf bk l n)).length = u := ⟨_, rfl⟩
  have hNm := fun (w : World) h1 h2 => Lib.hid (refNamesOf most ba ev nw l hs ps A H B c d e n w m hpm (by omega) (by omega) bk (fun _ => hbk) (by have := hgd.len; omega) (fun y hy => by have := Bin.name_len (hgd.name y hy); unfold maxLen; omega) (fun y hy => by have := ((askFault_ok _ _).1 (hq.each y hy)).1; have := Bin.name_len this; unfold maxLen; omega) hn h1 h2 nn hnn)
  have hnd : namesN ⟨most, l, ba, ev, nw, hs, bks ps⟩ n = nn := by rw [namesN, hlb]; exact hnn
  have hA0 := ((hA.alloc (.cells #[.int .i64 most, .slice A l.length c, .int .i64 ba, .int .i64 ev, .int .i64 nw, .slice H hs.length d, .slice B ps.length e] 28)).alloc (.cells #[.string (S n), .string (S v), .int .u64 (x : Int), .int .u64 (t : Int)] 31)).alloc (.cells #[.int .i64 0, .slice none 0 0, .int .i64 0, .int .i64 0, .int .i64 0, .slice none 0 0, .slice none 0 0] 28)
  have hB0 := ((hB.alloc (.cells #[.int .i64 most, .slice A l.length c, .int .i64 ba, .int .i64 ev, .int .i64 nw, .slice H hs.length d, .slice B ps.length e] 28)).alloc (.cells #[.string (S n), .string (S v), .int .u64 (x : Int), .int .u64 (t : Int)] 31)).alloc (.cells #[.int .i64 0, .slice none 0 0, .int .i64 0, .int .i64 0, .int .i64 0, .slice none 0 0, .slice none 0 0] 28)
  unfold ckAskErr at hr
  rw [hnd] at hr
  unfold closedB at hr
  dsimp only at hr
  have k0 : askFault n v = 0 := by
    split at hr
    · assumption
    · exact hr
  rw [if_pos k0] at hr
  rw [k0] at hF
  have k1 : (decide (hs.length = 40) || decide (nw = 1000000000)) = false := by
    cases h : (decide (hs.length = 40) || decide (nw = 1000000000)) with
    | false => rfl
    | true => rw [h, if_pos rfl] at hr; exact absurd hr (by decide)
  rw [k1, if_neg (by simp)] at hr
  rw [k1] at hCl
  have k2 : ¬ (l.length : Int) = most := fun h => by rw [if_pos (.inl h)] at hr; exact absurd hr (by decide)
  have k3 : ¬ 24 < nn := fun h => by rw [if_pos (.inr h)] at hr; exact absurd hr (by decide)
  have c2 : ((l.length : Int) == most) = false := beq_eq_false_iff_ne.2 k2
  have c3 : decide ((24 : Int) < (nn : Int)) = false := decide_eq_false (by omega)
  have hOw := fun (w : World) h1 h2 h3 => Lib.hid (refOwnClerk most ba ev nw l hs ps A H B c d e w (by omega) (by omega) (by omega) hbk24 h1 h2 h3)
  have hrg := hg.range
  unfold rangeBad at hrg
  dsimp only at hrg
  obtain ⟨N, rfl⟩ : ∃ N : Nat, nw = (N : Int) := ⟨nw.toNat, by omega⟩
  obtain ⟨v0, rfl⟩ : ∃ v0 : Nat, ev = (v0 : Int) := ⟨ev.toNat, by omega⟩
  obtain ⟨b, rfl⟩ : ∃ b : Nat, ba = (b : Int) := ⟨ba.toNat, by omega⟩
  have hN : N ≤ 1000000000 := by omega
  have hv1 : 1 ≤ v0 := by omega
  have hv2 : v0 ≤ 1000 := by omega
  have hb1 : 1 ≤ b := by omega
  have hb2' : b ≤ 30 := by omega
  have HD : Hid ((dueN N v0 l.length b : Int) = due) := by show _ = _; rw [← hdue]; exact (dueOf_nat N v0 b ⟨most, l, (b : Int), (v0 : Int), (N : Int), hs, bks ps⟩ rfl rfl rfl).symm
  obtain ⟨T, hT⟩ : ∃ T, l ++ [((n, v, x, t) : Ak)] = T := ⟨_, rfl⟩
  rw [hT]
  have HT := Lib.hid hT
  clear hT
  clear hr k0 k1 k2 k3 hnd hnn hlb hgd hbk hpm hph hc0 hc40 hq hg hA hB hn hv hdue hrg hbk24
  go_enter Tryz.func12, Tryz.ntmps12
  go_wp2_with fail
  refine (hF _).out.mono ?_
  rintro xx w1 ⟨rfl, hw1⟩
  subst hw1
  go_wp2_with fail
  refine (hCl _).out.mono ?_
  rintro xx w2 ⟨rfl, hb2⟩
  have x2 := x0.below hb2
  have y2' := y0.below hb2
  have z2 := z0.below hb2
  have hA2 := hA0.below hb2
  have hB2 := hB0.below hb2
  have hb02 := below_chain hb0 hb2
  clear a0 a1 a2 a3 a4 a5 a6 y1 y2 y3 y4 hCl x0 y0 z0 hA0 hB0 hb0 hb2
  obtain ⟨a0, a1, a2, a3, a4, a5, a6⟩ := x2.get7
  obtain ⟨⟨y1, y2, y3, y4⟩, _⟩ := y2'.get4
  go_wp2_with fail
  refine (hNm _ hA2 hB2).out.mono ?_
  rintro xx w3 ⟨rfl, hb3⟩
  have x3 := x2.below hb3
  have y3' := y2'.below hb3
  have z3 := z2.below hb3
  have hb03 := below_chain hb02 hb3
  have hA3 := hA2.below hb3
  have hB3 := hB2.below hb3
  clear a0 a1 a2 a3 a4 a5 a6 y1 y2 y3 y4 hNm x2 y2' z2 hA2 hB2 hb02 hb3
  obtain ⟨a0, a1, a2, a3, a4, a5, a6⟩ := x3.get7
  go_wp2_with fail
  refine (hOw _ hA3 (hH.below hb03) hB3).out.mono ?_
  rintro xx w4 ⟨Dq, dq, E, f, F, m1, qs, rfl, hqs, hO, hb4⟩
  have hb45 := below_chain hb4 (balloc (Below.refl w4.heap.size w4) (.cells #[.int .i64 most, .slice Dq l.length dq, .int .i64 (b : Int), .int .i64 (v0 : Int), .int .i64 (N : Int), .slice E hs.length f, .slice F qs.length m1] 28))
  have x5 := x3.below hb45
  have y5 := y3'.below hb45
  have z5 := z3.below hb45
  have o5 := Bx.new w4 _ rfl _ [.int .i64 most, .slice Dq l.length dq, .int .i64 (b : Int), .int .i64 (v0 : Int), .int .i64 (N : Int), .slice E hs.length f, .slice F qs.length m1] 28 rfl
  have hO5 := hO.below (balloc (Below.refl w4.heap.size w4) (.cells #[.int .i64 most, .slice Dq l.length dq, .int .i64 (b : Int), .int .i64 (v0 : Int), .int .i64 (N : Int), .slice E hs.length f, .slice F qs.length m1] 28))
  have hb05 := below_chain hb03 hb45
  have hlq := fun k hk => (hO.q.lt k hk)
  have hlh := fun k hk => (hO.hd.lt k hk)
  have hlk := fun k hk => (hO.bk.lt k hk)
  have hle := fun p (hp : p ∈ qs) k hk => ((hO.each p hp).lt k hk)
  have hz3 := z3.lt
  have hs4 := hb4.size
  clear a0 a1 a2 a3 a4 a5 a6 x3 y3' z3 hO hb4 hOw hA3 hB3 hb03 hb45 hF
  obtain ⟨⟨y1, y2, y3, y4⟩, _⟩ := y5.get4
  obtain ⟨p0, p1, p2, p3, p4, p5, p6⟩ := o5.get7
  have hsm : (l.length + [((n, v, x, t) : Ak)].length) * 48 ≤ 140737488355328 := by rw [List.length_singleton]; omega
  go_wp2_with (at_builtin; refine app_asksAt _ rfl _ _ rfl w3.heap.size _ l rfl (hO5.q.alloc (.cells #[.string (S n), .string (S v), .int .u64 (x : Int), .int .u64 (t : Int)] 31)) (some ⟨(w4.alloc (.cells #[.int .i64 most, .slice Dq l.length dq, .int .i64 (b : Int), .int .i64 (v0 : Int), .int .i64 (N : Int), .slice E hs.length f, .slice F qs.length m1] 28)).heap.size, 0, none⟩) 1 [(n, v, x, t)] (by simp [Act.eval]) (ask_one (w4.alloc (.cells #[.int .i64 most, .slice Dq l.length dq, .int .i64 (b : Int), .int .i64 (v0 : Int), .int .i64 (N : Int), .slice E hs.length f, .slice F qs.length m1] 28)) (n, v, x, t) _) hsm (by simp; omega) ?_; intro v6 w6 hown6 hg6 hat6; rw [HT.out] at hown6; obtain ⟨D6, d6, rfl⟩ := own_shape hown6; have o6 := (o5.alloc (.cells #[.string (S n), .string (S v), .int .u64 (x : Int), .int .u64 (t : Int)] 31)).kept hg6 (fun e => by have := (hlq _ e.symm).2; omega); have fz6 := o6.f 1 (by simp); have cz6 := o6.get7.2.1)
  have x6 := (x5.alloc (.cells #[.string (S n), .string (S v), .int .u64 (x : Int), .int .u64 (t : Int)] 31)).kept hg6 (fun e => by have := (hlq _ e.symm).1; omega)
  have z6 := (z5.alloc (.cells #[.string (S n), .string (S v), .int .u64 (x : Int), .int .u64 (t : Int)] 31)).kept hg6 (fun e => by have := (hlq _ e.symm).1; omega)
  have hne6 : ∀ k, (Value.slice D6 T.length d6).ownBlock = some k → k ≠ w4.heap.size := fun k hk => by
    rcases hat6 with h | h
    · rw [h] at hk; have := (hlq k hk).2; omega
    · rw [h] at hk; injection hk with hk; simp at hk; omega
  have hd6 := own_other (hO5.hd.alloc (.cells #[.string (S n), .string (S v), .int .u64 (x : Int), .int .u64 (t : Int)] 31)) (hO5.q.alloc (.cells #[.string (S n), .string (S v), .int .u64 (x : Int), .int .u64 (t : Int)] 31)) (by decide) hg6
  have bk6 := own_other (hO5.bk.alloc (.cells #[.string (S n), .string (S v), .int .u64 (x : Int), .int .u64 (t : Int)] 31)) (hO5.q.alloc (.cells #[.string (S n), .string (S v), .int .u64 (x : Int), .int .u64 (t : Int)] 31)) (by decide) hg6
  have ea6 := fun p hp => own_other ((hO5.each p hp).alloc (.cells #[.string (S n), .string (S v), .int .u64 (x : Int), .int .u64 (t : Int)] 31)) (hO5.q.alloc (.cells #[.string (S n), .string (S v), .int .u64 (x : Int), .int .u64 (t : Int)] 31)) (by decide) hg6
  have k7 : OwnCk (w6.setCell ⟨w4.heap.size, 1, none⟩ (.slice D6 T.length d6)) w3.heap.size T hs D6 E F d6 f m1 qs :=
    ⟨own_far hown6 hne6 1 _, own_far hd6 (fun k hk => by have := (hlh k hk).2; omega) 1 _, own_far bk6 (fun k hk => by have := (hlk k hk).2; omega) 1 _, fun p hp => own_far (ea6 p hp) (fun k hk => by have := (hle p hp k hk).2; omega) 1 _⟩
  have x7 := x6.far (h := w4.heap.size) (by omega) 1 (.slice D6 T.length d6)
  have z7 := z6.far (h := w4.heap.size) (by omega) 1 (.slice D6 T.length d6)
  have o7 : Bx _ w4.heap.size [.int .i64 most, .slice D6 T.length d6, .int .i64 (b : Int), .int .i64 (v0 : Int), .int .i64 (N : Int), .slice E hs.length f, .slice F qs.length m1] := o6.set 1 (.slice D6 T.length d6)
  have hb7 := ((hb05.alloc hb05.size (.cells #[.string (S n), .string (S v), .int .u64 (x : Int), .int .u64 (t : Int)] 31)).grown hg6 (by simp; omega) (fun j hj => by have := (hlq j hj).1; omega)).setCell (p := ⟨w4.heap.size, 1, none⟩) (by show w.heap.size ≤ w4.heap.size; omega) (.slice D6 T.length d6)
  generalize w6.setCell ⟨w4.heap.size, 1, none⟩ (.slice D6 T.length d6) = X at *
  generalize w4.heap.size = p8 at *
  clear o6 fz6 cz6 x6 z6 hne6 hd6 bk6 ea6 hO5 x5 y5 z5 o5 hb05 hlq hlh hlk hle y1 y2 y3 y4 p0 p1 p2 p3 p4 p5 p6 hown6 hg6 hat6 hsm
  obtain ⟨a0, a1, a2, a3, a4, a5, a6⟩ := x7.get7
  go_quiet (fail)
  obtain ⟨DU, hDU⟩ : ∃ DU, dueN N v0 l.length b = DU := ⟨_, rfl⟩
  have hDb : DU ≤ 1000031000 := by
    rw [← hDU, dueN]
    have e1 := Nat.div_mul_le_self N v0
    have e2 : (l.length / b + 1) * v0 ≤ 31 * 1000 := Nat.mul_le_mul (by have := Nat.div_le_self l.length b; omega) hv2
    omega
  rw [hDU] at HD
  have HDU := Lib.hid hDU
  have hvz : ((v0 : Int) == 0) = false := beq_eq_false_iff_ne.2 (by omega)
  clear a0 a1 a2 a3 a4 a5 a6 hDU
  go_wp2
  go_loopw [9, 10] (fun va vl wr => ∃ at' left : Nat, va = .int .i64 at' ∧ vl = .int .i64 left ∧ left ≤ 30 ∧ Hid (dueN at' v0 left b = DU) ∧ Below X.heap.size X wr) (fun _ vl _ => (intOf vl).toNat)
  case atStart => exact ⟨N, l.length, rfl, rfl, hl30, HDU, below_of_drewN _ _ _⟩
  case round =>
    obtain ⟨at', left, rfl, rfl, hl, HI, hbl⟩ := hrel
    have x8 := x7.below hbl
    have z8 := z7.below hbl
    have o8 := o7.below hbl
    have k8 := k7.below hbl
    have hb8 := below_chain hb7 hbl
    obtain ⟨a0, a1, a2, a3, a4, a5, a6⟩ := x8.get7
    have hlt := lt_nextAt at' v0 hv1
    have hle := nextAt_due at' v0 left b
    rw [HI.out] at hle
    have hDb' := hDb
    clear x7 z7 o7 k7 hb7 hDb HDU
    go_wp2
    go_loopw [9] (fun va wx => ∃ a : Nat, va = .int .i64 a ∧ at' < a ∧ a ≤ nextAt at' v0 ∧ wx = wr) (fun va _ => nextAt at' v0 - (intOf va).toNat)
    case atStart => exact ⟨at' + 1, by go_num, by omega, by omega, rfl⟩
    case round =>
      obtain ⟨a, rfl, ha1, ha2, hwx⟩ := hrel
      have hwx := hwx.symm
      subst hwx
      by_cases hm : a % v0 = 0
      case neg =>
        have cm : ((a : Int) % (v0 : Int) != 0) = true := bne_iff_ne.2 (by rw [← Int.natCast_emod]; omega)
        have hlt2 : a < nextAt at' v0 := by
          rcases Nat.lt_or_ge a (nextAt at' v0) with h | h
          · exact h
          · exact absurd (by rw [show a = nextAt at' v0 by omega]; exact nextAt_mod _ _) hm
        clear hm x8 z8 o8 k8 hb8
        go_wp2
        go_roundw
        case rel => exact ⟨a + 1, by go_num, by omega, by omega, (by trivial)⟩
        case measure => simp [intOf]; omega
      case pos =>
        have cm : ((a : Int) % (v0 : Int) != 0) = false := by rw [← Int.natCast_emod, hm]; rfl
        have hae := nextAt_only hv1 ha1 ha2 hm
        by_cases hlb : left < b
        case neg =>
          have HI2 : Hid (dueN a v0 (left - b) b = DU) := by show _ = _; rw [hae, due_next hv1 hb1 (by omega)]; exact HI.out
          obtain ⟨left', hl'⟩ : ∃ left', left = left' + b := ⟨left - b, by omega⟩
          subst hl'
          rw [Nat.add_sub_cancel] at HI2
          clear hm x8 z8 o8 k8 hb8 hae HI
          go_wp2
          go_roundw
          case rel => exact ⟨a, left', rfl, by go_num, by omega, HI2, hbl⟩
          case measure => simp [intOf]; omega
        case pos =>
          have HA : Hid ((a : Int) = due) := by
            show _ = _
            rw [← HD.out, ← HI.out, due_last hlb, hae]
          have z9 : Bx (((((((wr.setCell ⟨w.heap.size + 2, 0, none⟩ (.int .i64 most)).setCell ⟨w.heap.size + 2, 1, none⟩ (.slice D6 T.length d6)).setCell ⟨w.heap.size + 2, 2, none⟩ (.int .i64 (b : Int))).setCell ⟨w.heap.size + 2, 3, none⟩ (.int .i64 (v0 : Int))).setCell ⟨w.heap.size + 2, 4, none⟩ (.int .i64 (N : Int))).setCell ⟨w.heap.size + 2, 5, none⟩ (.slice E hs.length f)).setCell ⟨w.heap.size + 2, 6, none⟩ (.slice F qs.length m1)) (w.heap.size + 2) [.int .i64 most, .slice D6 T.length d6, .int .i64 (b : Int), .int .i64 (v0 : Int), .int .i64 (N : Int), .slice E hs.length f, .slice F qs.length m1] := (((((((z8.set 0 (.int .i64 most)).set 1 (.slice D6 T.length d6)).set 2 (.int .i64 (b : Int))).set 3 (.int .i64 (v0 : Int))).set 4 (.int .i64 (N : Int))).set 5 (.slice E hs.length f)).set 6 (.slice F qs.length m1))
          have k9 := Lib.hid ((((((((k8.set (g := w.heap.size + 2) (by omega) 0 (.int .i64 most)).set (g := w.heap.size + 2) (by omega) 1 (.slice D6 T.length d6)).set (g := w.heap.size + 2) (by omega) 2 (.int .i64 (b : Int))).set (g := w.heap.size + 2) (by omega) 3 (.int .i64 (v0 : Int))).set (g := w.heap.size + 2) (by omega) 4 (.int .i64 (N : Int))).set (g := w.heap.size + 2) (by omega) 5 (.slice E hs.length f)).set (g := w.heap.size + 2) (by omega) 6 (.slice F qs.length m1)).mono (by omega : w.heap.size ≤ w3.heap.size))
          have hb9 := Lib.hid (((((((hb8.setCell (p := ⟨w.heap.size + 2, 0, none⟩) (by omega : w.heap.size ≤ w.heap.size + 2) (.int .i64 most)).setCell (p := ⟨w.heap.size + 2, 1, none⟩) (by omega : w.heap.size ≤ w.heap.size + 2) (.slice D6 T.length d6)).setCell (p := ⟨w.heap.size + 2, 2, none⟩) (by omega : w.heap.size ≤ w.heap.size + 2) (.int .i64 (b : Int))).setCell (p := ⟨w.heap.size + 2, 3, none⟩) (by omega : w.heap.size ≤ w.heap.size + 2) (.int .i64 (v0 : Int))).setCell (p := ⟨w.heap.size + 2, 4, none⟩) (by omega : w.heap.size ≤ w.heap.size + 2) (.int .i64 (N : Int))).setCell (p := ⟨w.heap.size + 2, 5, none⟩) (by omega : w.heap.size ≤ w.heap.size + 2) (.slice E hs.length f)).setCell (p := ⟨w.heap.size + 2, 6, none⟩) (by omega : w.heap.size ≤ w.heap.size + 2) (.slice F qs.length m1))
          clear x8 k8 hb8 hm hae
          obtain ⟨p0, p1, p2, p3, p4, p5, p6⟩ := o8.get7
          obtain ⟨b0, b1, b2, b3, b4, b5, b6⟩ := z8.get7
          have g0 := z8.f 0 (by simp)
          have g1 := z8.f 1 (by simp)
          have g2 := z8.f 2 (by simp)
          have g3 := z8.f 3 (by simp)
          have g4 := z8.f 4 (by simp)
          have g5 := z8.f 5 (by simp)
          have g6 := z8.f 6 (by simp)
          clear z8 o8
          go_wp2
          generalize (((((((wr.setCell ⟨w.heap.size + 2, 0, none⟩ (.int .i64 most)).setCell ⟨w.heap.size + 2, 1, none⟩ (.slice D6 T.length d6)).setCell ⟨w.heap.size + 2, 2, none⟩ (.int .i64 (b : Int))).setCell ⟨w.heap.size + 2, 3, none⟩ (.int .i64 (v0 : Int))).setCell ⟨w.heap.size + 2, 4, none⟩ (.int .i64 (N : Int))).setCell ⟨w.heap.size + 2, 5, none⟩ (.slice E hs.length f)).setCell ⟨w.heap.size + 2, 6, none⟩ (.slice F qs.length m1)) = w9 at *
          obtain ⟨r0, r1, r2, r3, r4, r5, r6⟩ := z9.get7
          refine bodyPost_ret (v := .tuple #[.agg #[.int .i64 most, .slice D6 T.length d6, .int .i64 (b : Int), .int .i64 (v0 : Int), .int .i64 (N : Int), .slice E hs.length f, .slice F qs.length m1], .int .i64 (a : Int), .int .i64 0]) ?_ rfl ⟨D6, d6, E, f, F, m1, qs, by rw [HA.out], hqs, k9.out, hb9.out⟩
          rw [results_cell_tmp2 rfl]
          go_simp
end Go.Proofs.YtjcockcilkiggaaGreat
