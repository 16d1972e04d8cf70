/- Chains of heads on plain lists: the error of a chain and its place, and what a valid chain is. No function of the program in this text. -/
import Derived.Test.YtjcockcilkiggaaGreatJ13
import Derived.Test.YtjcockcilkiggaaGreatJ09
import Derived.Deep.RegionHeld3
import Derived.Laws.ResultCell
namespace Go.Proofs.YtjcockcilkiggaaGreat
set_option maxRecDepth 100000
open Go.RowKit

theorem links_iff (h g : Hd) : links h g = true ↔ HGood h ∧ HGood g ∧ g.1 = h.1 + 1 ∧ g.2.2.1 = hmark h ∧ h.2.2.2 ≤ g.2.2.2 := by
  unfold links
  rw [Bool.and_eq_true, Bool.and_eq_true, Bool.and_eq_true, Bool.and_eq_true, decide_eq_true_eq, decide_eq_true_eq, decide_eq_true_eq, decide_eq_true_eq, decide_eq_true_eq, hfault_ok, hfault_ok]
  exact ⟨fun ⟨⟨⟨⟨a, b⟩, c⟩, d⟩, e⟩ => ⟨a, b, c, d, e⟩, fun ⟨a, b, c, d, e⟩ => ⟨⟨⟨⟨a, b⟩, c⟩, d⟩, e⟩⟩
/-- A head links to another just where the other is its successor. -/
theorem links_next (h g : Hd) : links h g = true ↔ NextOk h g.2.1 g.2.2.2 ∧ h.1 + 1 = g.1 ∧ hmark h = g.2.2.1 := by
  rw [links_iff]
  constructor
  · rintro ⟨a, b, c, d, e⟩
    refine ⟨⟨a, ?_, b.r, e, b.t1⟩, c.symm, d.symm⟩
    have := b.e1
    omega
  · rintro ⟨k, c, d⟩
    have hg := nextOf_good k
    have e : nextOf h g.2.1 g.2.2.2 = g := by
      obtain ⟨g1, g2, g3, g4⟩ := g
      dsimp only at c d
      rw [nextOf, c, d]
    rw [e] at hg
    exact ⟨k.g, (hfault_ok _).1 hg, c.symm, d.symm, k.t.1⟩
theorem links_nextOf {h : Hd} {nr : Nat} {at' : Int} (k : NextOk h nr at') : links h (nextOf h nr at') = true :=
  (links_next _ _).2 ⟨k, rfl, rfl⟩

/-- The first head that has an error, and its place. -/
def badAt : List Hd → Nat → Option (Int × Nat)
  | [], _ => none
  | h :: t, i => if hfault h = 0 then badAt t (i + 1) else some (hfault h, i)
/-- The first place whose head is no successor. -/
def unAt : List Hd → Nat → Option Nat
  | [], _ => none
  | [_], _ => none
  | h :: g :: t, i => if links h g = true then unAt (g :: t) (i + 1) else some i
/-- The error of a chain, and its place. -/
def cfault (l : List Hd) : Int × Nat :=
  if l.length = 0 then (5, 0) else if 40 < l.length then (2, 0) else
    match badAt l 0 with
    | some p => p
    | none => match unAt l 1 with
      | some i => (8, i)
      | none => (0, 0)
structure CGood (l : List Hd) : Prop where
  pos : 0 < l.length
  len : l.length ≤ 40
  good : ∀ h ∈ l, HGood h
  link : ∀ i (h : i + 1 < l.length), links l[i] l[i + 1] = true
theorem badAt_none (l : List Hd) (i : Nat) : badAt l i = none ↔ ∀ h ∈ l, HGood h := by
  induction l generalizing i with
  | nil => simp [badAt]
  | cons x l ih =>
    rw [badAt]
    by_cases h : hfault x = 0
    · rw [if_pos h, ih]
      simp only [List.mem_cons, forall_eq_or_imp]
      exact ⟨fun k => ⟨(hfault_ok _).1 h, k⟩, fun k => k.2⟩
    · rw [if_neg h]
      simp only [List.mem_cons, forall_eq_or_imp, reduceCtorEq, false_iff]
      exact fun k => h ((hfault_ok _).2 k.1)
theorem badAt_some (l : List Hd) (i : Nat) (p : Int × Nat) (h : badAt l i = some p) : p.1 ≠ 0 := by
  induction l generalizing i with
  | nil => cases h
  | cons x l ih =>
    rw [badAt] at h
    by_cases k : hfault x = 0
    · rw [if_pos k] at h; exact ih _ h
    · rw [if_neg k] at h
      injection h with h
      rw [← h]
      exact k
theorem unAt_none (l : List Hd) (i : Nat) : unAt l i = none ↔ ∀ j (h : j + 1 < l.length), links l[j] l[j + 1] = true := by
  induction l generalizing i with
  | nil => simp [unAt]
  | cons x l ih =>
    cases l with
    | nil => simp [unAt]
    | cons y l =>
      rw [unAt]
      by_cases h : links x y = true
      · rw [if_pos h, ih]
        constructor
        · intro k j hj
          cases j with
          | zero => exact h
          | succ j => exact k j (by simpa using hj)
        · intro k j hj
          exact k (j + 1) (by simpa using hj)
      · rw [if_neg h]
        simp only [reduceCtorEq, false_iff]
        exact fun k => h (k 0 (by simp))
theorem cfault_ok (l : List Hd) : (cfault l).1 = 0 ↔ CGood l := by
  unfold cfault
  by_cases h0 : l.length = 0
  · rw [if_pos h0]
    exact ⟨fun e => absurd e (by decide), fun k => absurd k.pos (by omega)⟩
  rw [if_neg h0]
  by_cases h1 : 40 < l.length
  · rw [if_pos h1]
    exact ⟨fun e => absurd e (by decide), fun k => absurd k.len (by omega)⟩
  rw [if_neg h1]
  cases hb : badAt l 0 with
  | some p =>
    dsimp only
    refine ⟨fun e => absurd e (badAt_some l 0 p hb), fun k => ?_⟩
    rw [(badAt_none l 0).2 k.good] at hb
    cases hb
  | none =>
    dsimp only
    cases hu : unAt l 1 with
    | some i =>
      dsimp only
      refine ⟨fun e => absurd e (by decide), fun k => ?_⟩
      rw [(unAt_none l 1).2 k.link] at hu
      cases hu
    | none =>
      dsimp only
      exact ⟨fun _ => ⟨by omega, by omega, (badAt_none l 0).1 hb, (unAt_none l 1).1 hu⟩, fun _ => rfl⟩
theorem cfault_zero (l : List Hd) (h : CGood l) : cfault l = (0, 0) := by
  unfold cfault
  rw [if_neg (by have := h.pos; omega), if_neg (by have := h.len; omega), (badAt_none l 0).2 h.good]
  dsimp only
  rw [(unAt_none l 1).2 h.link]

/-- The epochs of a chain have no gaps. -/
theorem CGood.epoch {l : List Hd} (h : CGood l) (i : Nat) (hi : i < l.length) : l[i].1 = (l[0]'h.pos).1 + i := by
  induction i with
  | zero => simp
  | succ i ih =>
    have k := ((links_iff _ _).1 (h.link i hi)).2.2.1
    rw [k, ih (by omega)]
    push_cast
    omega
/-- A part of a chain is a chain. -/
theorem CGood.part {l : List Hd} (h : CGood l) (p n : Nat) (hn : 0 < n) (hp : p + n ≤ l.length) : CGood ((l.drop p).take n) := by
  have hl : ((l.drop p).take n).length = n := by rw [List.length_take, List.length_drop]; omega
  refine ⟨by omega, by have := h.len; omega, fun x hx => h.good x (List.mem_of_mem_drop (List.mem_of_mem_take hx)), fun i hi => ?_⟩
  rw [List.getElem_take, List.getElem_take, List.getElem_drop, List.getElem_drop]
  exact h.link (p + i) (by omega)
/-- A chain with a successor is a chain. -/
theorem CGood.snoc {l : List Hd} (h : CGood l) (g : Hd) (hl : l.length < 40) (hg : links (l[l.length - 1]'(by have := h.pos; omega)) g = true) : CGood (l ++ [g]) := by
  have hp := h.pos
  refine ⟨by simp, by simp; omega, fun x hx => ?_, fun i hi => ?_⟩
  · rcases List.mem_append.1 hx with k | k
    · exact h.good x k
    · rw [List.mem_singleton.1 k]
      exact ((links_iff _ _).1 hg).2.1
  · rw [List.length_append, List.length_singleton] at hi
    by_cases e : i + 1 < l.length
    · rw [List.getElem_append_left (by omega), List.getElem_append_left e]
      exact h.link i e
    · have e2 : i = l.length - 1 := by omega
      rw [List.getElem_append_left (by omega), List.getElem_append_right (by omega)]
      subst e2
      simpa using hg
end Go.Proofs.YtjcockcilkiggaaGreat
/- Package chain: succeeds, last. They write nothing that was there. -/
namespace Go.Proofs.YtjcockcilkiggaaGreat
set_option maxRecDepth 100000
open Go.RowKit

set_option maxHeartbeats 2000000 in
theorem chainSucceeds (ep : Int) (rt pv : Nat) (tm fp : Int) (st qv : Nat) (um : Int) (w : World) (b : Bool) (hb : links (ep, rt, pv, tm) (fp, st, qv, um) = b) :
    Calls Tryz.prog 62 #[.agg #[.int .i64 ep, .int .u64 (rt : Int), .int .u64 (pv : Int), .int .i64 tm], .agg #[.int .i64 fp, .int .u64 (st : Int), .int .u64 (qv : Int), .int .i64 um]] w fun e w' => e = .returned (.bool b) ∧ Below w.heap.size w w' := by
  have z0 := Bx.new (w.alloc (.cells #[.int .i64 ep, .int .u64 (rt : Int), .int .u64 (pv : Int), .int .i64 tm] 45)) (w.heap.size + 1) (by simp) _ [.int .i64 fp, .int .u64 (st : Int), .int .u64 (qv : Int), .int .i64 um] 45 rfl
  have hb0 : Below w.heap.size w ((w.alloc (.cells #[.int .i64 ep, .int .u64 (rt : Int), .int .u64 (pv : Int), .int .i64 tm] 45)).alloc (.cells #[.int .i64 fp, .int .u64 (st : Int), .int .u64 (qv : Int), .int .i64 um] 45)) := ((Below.refl _ _).alloc (Nat.le_refl _) _).alloc (by simp) _
  by_cases hn : nextErr (ep, rt, pv, tm) st um = 0
  · have k := (nextErr_ok _ _ _).1 hn
    obtain ⟨q, hq⟩ : ∃ q, ep + 1 = q := ⟨_, rfl⟩
    obtain ⟨m, hm⟩ : ∃ m, hmark (ep, rt, pv, tm) = m := ⟨_, rfl⟩
    have hN := fun w => Lib.hid (headNext_ok ep rt pv tm st um w k m hm q hq)
    have hl := links_next (ep, rt, pv, tm) (fp, st, qv, um)
    dsimp only at hl
    rw [hq, hm] at hl
    by_cases e1 : q = fp ∧ m = qv
    · obtain rfl : b = true := by rw [← hb]; exact hl.2 ⟨k, e1⟩
      obtain ⟨rfl, rfl⟩ := e1
      clear hb hl k hn hq hm
      go_enter Tryz.func62, Tryz.ntmps62
      go_wp2_with fail
      refine (hN _).out.mono ?_
      rintro e w1 ⟨rfl, hb1⟩
      obtain ⟨⟨z1, z2, z3, z4⟩, _⟩ := ((z0.below hb1).alloc (.cells #[.int .i64 q, .int .u64 (st : Int), .int .u64 (m : Int), .int .i64 um] 45)).get4
      have hb2 := below_chain hb0 hb1
      clear z0 hb0
      go_wp2
      go_ret
      exact ⟨rfl, hb2.alloc hb2.size _⟩
    · have eb : b = false := by
        rw [← hb, ← Bool.not_eq_true, hl]
        exact fun h => e1 h.2
      subst eb
      clear hb hl k hn hq hm
      by_cases e2 : q = fp
      · have c2 : (q == fp) = true := beq_iff_eq.2 e2
        have c3 : ((m : Int) == (qv : Int)) = false := beq_eq_false_iff_ne.2 (fun h => e1 ⟨e2, by omega⟩)
        clear e1 e2
        go_enter Tryz.func62, Tryz.ntmps62
        go_wp2_with fail
        refine (hN _).out.mono ?_
        rintro e w1 ⟨rfl, hb1⟩
        obtain ⟨⟨z1, z2, z3, z4⟩, _⟩ := ((z0.below hb1).alloc (.cells #[.int .i64 q, .int .u64 (st : Int), .int .u64 (m : Int), .int .i64 um] 45)).get4
        have hb2 := below_chain hb0 hb1
        clear z0 hb0
        go_wp2
        go_ret
        exact ⟨rfl, hb2.alloc hb2.size _⟩
      · have c2 : (q == fp) = false := beq_eq_false_iff_ne.2 e2
        clear e1 e2
        go_enter Tryz.func62, Tryz.ntmps62
        go_wp2_with fail
        refine (hN _).out.mono ?_
        rintro e w1 ⟨rfl, hb1⟩
        obtain ⟨⟨z1, z2, z3, z4⟩, _⟩ := ((z0.below hb1).alloc (.cells #[.int .i64 q, .int .u64 (st : Int), .int .u64 (m : Int), .int .i64 um] 45)).get4
        have hb2 := below_chain hb0 hb1
        clear z0 hb0
        go_wp2
        go_ret
        exact ⟨rfl, hb2.alloc hb2.size _⟩
  · have eb : b = false := by
      rw [← hb, ← Bool.not_eq_true, links_next]
      rintro ⟨h, _⟩
      exact hn ((nextErr_ok _ _ _).2 h)
    subst eb
    obtain ⟨r, hr⟩ : ∃ r, nextErr (ep, rt, pv, tm) st um = r := ⟨_, rfl⟩
    rw [hr] at hn
    have hN := fun w => Lib.hid (headNext_no ep rt pv tm st um w r hr hn)
    have c1 : (r == 0) = false := beq_eq_false_iff_ne.2 hn
    clear hb hr hn
    go_enter Tryz.func62, Tryz.ntmps62
    go_wp2_with fail
    refine (hN _).out.mono ?_
    rintro e w1 ⟨rfl, hb1⟩
    have hb2 := below_chain hb0 hb1
    clear z0 hb0
    go_wp2
    go_ret
    exact ⟨rfl, hb2.alloc hb2.size _⟩
end Go.Proofs.YtjcockcilkiggaaGreat
/- Package chain: Check. It writes nothing that was there. -/
namespace Go.Proofs.YtjcockcilkiggaaGreat
set_option maxRecDepth 100000
open Go.RowKit

set_option maxHeartbeats 4000000 in
theorem chainCheck (A : Option Addr) (c : Nat) (l : List Hd) (w : World) (hm : l.length ≤ maxLen) (hA : Row w A (hcells l)) (r : Int) (p : Nat) (hr : cfault l = (r, p)) :
    Calls Tryz.prog 33 #[.slice A l.length c] w fun e w' => e = .returned (.tuple #[.int .i64 r, .int .i64 (p : Int)]) ∧ Below w.heap.size w w' := by
  unfold maxLen at hm
  unfold cfault at hr
  by_cases h0 : l.length = 0
  · rw [if_pos h0] at hr
    injection hr with e1 e2
    subst e1; subst e2
    have c0 : ((l.length : Int) == 0) = true := beq_iff_eq.2 (by omega)
    clear h0
    go_enter Tryz.func33, Tryz.ntmps33
    go_wp2
    go_ret2
    exact ⟨rfl, Below.refl _ _⟩
  rw [if_neg h0] at hr
  have c0 : ((l.length : Int) == 0) = false := beq_eq_false_iff_ne.2 (by omega)
  by_cases h1 : 40 < l.length
  · rw [if_pos h1] at hr
    injection hr with e1 e2
    subst e1; subst e2
    have c1 : decide ((40 : Int) < (l.length : Int)) = true := decide_eq_true (by omega)
    clear h0 h1
    go_enter Tryz.func33, Tryz.ntmps33
    go_wp2
    go_ret2
    exact ⟨rfl, Below.refl _ _⟩
  rw [if_neg h1] at hr
  have c1 : decide ((40 : Int) < (l.length : Int)) = false := decide_eq_false (by omega)
  have HR := Lib.hid hr
  have HP := Lib.hid (Nat.pos_of_ne_zero h0)
  clear hr h0 h1
  go_enter Tryz.func33, Tryz.ntmps33
  go_wp2
  go_loopw [16] (fun i wr => ∃ k : Nat, k ≤ l.length ∧ i = .int .i64 k ∧ Hid (badAt l 0 = badAt (l.drop k) k) ∧ Below w.heap.size w wr) (fun i _ => l.length - (intOf i).toNat)
  case atStart => exact ⟨0, Nat.zero_le _, rfl, rfl, Below.refl _ _⟩
  case round =>
    obtain ⟨k, hk, rfl, HS, hbl⟩ := hrel
    have hsz := hbl.size
    by_cases hlt : k < l.length
    · obtain ⟨g, off, rfl, h1, h2, h3, h4⟩ := (hA.below hbl).head k hlt
      have hi0 : (0 : Int) ≤ (k : Int) := by omega
      have hi1 : (k : Int) < (l.length : Int) := by omega
      have HS' : Hid (badAt l 0 = if hfault l[k] = 0 then badAt (l.drop (k + 1)) (k + 1) else some (hfault l[k], k)) := by
        show _ = _
        rw [HS.out, List.drop_eq_getElem_cons hlt]
        rfl
      clear hA HS
      obtain ⟨⟨ep, rt, pv, tm⟩, hx⟩ : ∃ x, l[k] = x := ⟨_, rfl⟩
      rw [hx] at h1 h2 h3 h4 HS'
      clear hx
      obtain ⟨r1, hr1⟩ : ∃ r1, hfault (ep, rt, pv, tm) = r1 := ⟨_, rfl⟩
      have hC := fun w => Lib.hid (headCheck ep rt pv tm w r1 hr1)
      rw [hr1] at HS'
      clear hr1
      dsimp only at h1 h2 h3 h4
      have hb0 : Below w.heap.size w (wr.alloc (.cells #[.int .i64 ep, .int .u64 (rt : Int), .int .u64 (pv : Int), .int .i64 tm] 45)) := hbl.alloc hsz _
      by_cases he : r1 = 0
      · subst he
        have HR' : Hid (badAt l 0 = badAt (l.drop (k + 1)) (k + 1)) := by
          show _ = _
          rw [HS'.out, if_pos rfl]
        clear HS'
        go_wp2_with fail
        refine (hC _).out.mono ?_
        rintro e w1 ⟨rfl, hb1⟩
        have hb2 := hb0.trans (hb1.mono hb0.size)
        clear hC
        go_wp2
        go_roundw
        case rel => exact ⟨k + 1, by omega, by go_num, HR', hb2⟩
        case measure => simp [intOf]; omega
      · have HR' : Hid ((r1, k) = (r, p)) := by
          show _ = _
          rw [← HR.out, HS'.out, if_neg he]
        have he' : (r1 == 0) = false := beq_eq_false_iff_ne.2 he
        clear HS' HR he
        go_wp2_with fail
        refine (hC _).out.mono ?_
        rintro e w1 ⟨rfl, hb1⟩
        have hb2 := hb0.trans (hb1.mono hb0.size)
        clear hC
        go_wp2
        go_ret2
        injection HR'.out with e1 e2
        subst e1; subst e2
        exact ⟨rfl, hb2⟩
    · have HN : Hid (badAt l 0 = none) := by
        show _ = _
        rw [HS.out, List.drop_eq_nil_of_le (by omega)]
        rfl
      clear HS
      have HQ : Hid ((match unAt l 1 with | some i => ((8 : Int), i) | none => (0, 0)) = (r, p)) := by
        have := HR.out
        rw [HN.out] at this
        exact this
      clear HR HN
      go_wp2
      go_loopw [7] (fun i wr => ∃ k : Nat, k + 1 ≤ l.length ∧ i = .int .i64 (k + 1) ∧ Hid (unAt l 1 = unAt (l.drop k) (k + 1)) ∧ Below w.heap.size w wr) (fun i _ => l.length - (intOf i).toNat)
      case atStart => exact ⟨0, HP.out, rfl, rfl, hbl⟩
      case round =>
        rename_i wr'
        obtain ⟨k, hk, rfl, HS, hbl'⟩ := hrel
        have hsz' := hbl'.size
        by_cases hlt : k + 1 < l.length
        · obtain ⟨g, off, rfl, h1, h2, h3, h4⟩ := (hA.below hbl').head k (by omega)
          obtain ⟨g', off', eA, j1, j2, j3, j4⟩ := (hA.below hbl').head (k + 1) hlt
          injection eA with eA
          injection eA with eA1 eA2
          subst eA1; subst eA2
          have HS' : Hid (unAt l 1 = if links l[k] l[k + 1] = true then unAt (l.drop (k + 1)) (k + 1 + 1) else some (k + 1)) := by
            show _ = _
            rw [HS.out, List.drop_eq_getElem_cons (by omega), List.drop_eq_getElem_cons hlt]
            rfl
          clear hA HS
          obtain ⟨⟨ep, rt, pv, tm⟩, hx⟩ : ∃ x, l[k] = x := ⟨_, rfl⟩
          obtain ⟨⟨fp, st, qv, um⟩, hy⟩ : ∃ x, l[k + 1] = x := ⟨_, rfl⟩
          rw [hx] at h1 h2 h3 h4
          rw [hy] at j1 j2 j3 j4
          rw [hx, hy] at HS'
          clear hx hy
          obtain ⟨b, hb⟩ : ∃ b, links (ep, rt, pv, tm) (fp, st, qv, um) = b := ⟨_, rfl⟩
          have hL := fun w => Lib.hid (chainSucceeds ep rt pv tm fp st qv um w b hb)
          rw [hb] at HS'
          clear hb
          dsimp only at h1 h2 h3 h4 j1 j2 j3 j4
          have hL' : ∀ W : World, (W.cell? ⟨g, off + k * 4, none⟩ = some (.int .i64 ep) ∧ W.cell? ⟨g, off + k * 4 + 1, none⟩ = some (.int .u64 (rt : Int)) ∧ W.cell? ⟨g, off + k * 4 + 2, none⟩ = some (.int .u64 (pv : Int)) ∧ W.cell? ⟨g, off + k * 4 + 3, none⟩ = some (.int .i64 tm) ∧ W.cell? ⟨g, off + (k + 1) * 4, none⟩ = some (.int .i64 fp) ∧ W.cell? ⟨g, off + (k + 1) * 4 + 1, none⟩ = some (.int .u64 (st : Int)) ∧ W.cell? ⟨g, off + (k + 1) * 4 + 2, none⟩ = some (.int .u64 (qv : Int)) ∧ W.cell? ⟨g, off + (k + 1) * 4 + 3, none⟩ = some (.int .i64 um) ∧ Below w.heap.size w W) → Hid (Calls Tryz.prog 62 #[.agg #[.int .i64 ep, .int .u64 (rt : Int), .int .u64 (pv : Int), .int .i64 tm], .agg #[.int .i64 fp, .int .u64 (st : Int), .int .u64 (qv : Int), .int .i64 um]] W fun e w' => e = .returned (.bool b) ∧ w'.cell? ⟨g, off + k * 4, none⟩ = some (.int .i64 ep) ∧ w'.cell? ⟨g, off + k * 4 + 1, none⟩ = some (.int .u64 (rt : Int)) ∧ w'.cell? ⟨g, off + k * 4 + 2, none⟩ = some (.int .u64 (pv : Int)) ∧ w'.cell? ⟨g, off + k * 4 + 3, none⟩ = some (.int .i64 tm) ∧ w'.cell? ⟨g, off + (k + 1) * 4, none⟩ = some (.int .i64 fp) ∧ w'.cell? ⟨g, off + (k + 1) * 4 + 1, none⟩ = some (.int .u64 (st : Int)) ∧ w'.cell? ⟨g, off + (k + 1) * 4 + 2, none⟩ = some (.int .u64 (qv : Int)) ∧ w'.cell? ⟨g, off + (k + 1) * 4 + 3, none⟩ = some (.int .i64 um) ∧ Below w.heap.size w w') := fun W ⟨q1, q2, q3, q4, q5, q6, q7, q8, q9⟩ => by
            show Calls _ _ _ _ _
            refine (hL W).out.mono ?_
            rintro e w' ⟨rfl, hb⟩
            exact ⟨rfl, kept q1 hb, kept q2 hb, kept q3 hb, kept q4 hb, kept q5 hb, kept q6 hb, kept q7 hb, kept q8 hb, below_chain q9 hb⟩
          have i1 : IntKind.i64.wrap ((k : Int) + 1 - 1) = (k : Int) := by rw [IntKind.wrap_i64]; omega
          have i6 : IntKind.i64.wrap (k : Int) = (k : Int) := by rw [IntKind.wrap_i64]; omega
          have i2 : (0 : Int) ≤ (k : Int) := by omega
          have i3 : (k : Int) < (l.length : Int) := by omega
          have i4 : (0 : Int) ≤ (k : Int) + 1 := by omega
          have i5 : (k : Int) + 1 < (l.length : Int) := by omega
          have h9 : Below w.heap.size w wr.drew := bdrew hbl'
          clear hL
          cases b with
          | true =>
            have HR' : Hid (unAt l 1 = unAt (l.drop (k + 1)) (k + 1 + 1)) := by
              show _ = _
              rw [HS'.out, if_pos rfl]
            clear HS'
            go_wp2
            go_region_held3 (fun w' => w'.cell? ⟨g, off + k * 4, none⟩ = some (.int .i64 ep) ∧ w'.cell? ⟨g, off + k * 4 + 1, none⟩ = some (.int .u64 (rt : Int)) ∧ w'.cell? ⟨g, off + k * 4 + 2, none⟩ = some (.int .u64 (pv : Int)) ∧ w'.cell? ⟨g, off + k * 4 + 3, none⟩ = some (.int .i64 tm) ∧ w'.cell? ⟨g, off + (k + 1) * 4, none⟩ = some (.int .i64 fp) ∧ w'.cell? ⟨g, off + (k + 1) * 4 + 1, none⟩ = some (.int .u64 (st : Int)) ∧ w'.cell? ⟨g, off + (k + 1) * 4 + 2, none⟩ = some (.int .u64 (qv : Int)) ∧ w'.cell? ⟨g, off + (k + 1) * 4 + 3, none⟩ = some (.int .i64 um) ∧ Below w.heap.size w w') (first | exact ⟨h1, h2, h3, h4, j1, j2, j3, j4, h9⟩ | exact ⟨by assumption, by assumption, by assumption, by assumption, by assumption, by assumption, by assumption, by assumption, by assumption⟩ | go_keep)
              (first | (go_at_call 62; refine (hL' _ ?_).out.mono ?_; (first | exact ⟨by assumption, by assumption, by assumption, by assumption, by assumption, by assumption, by assumption, by assumption, by assumption⟩); rintro e w' ⟨rfl, k1, k2, k3, k4, k5, k6, k7, k8, k9⟩))
            go_wp2
            go_roundw
            case rel => exact ⟨k + 1, hlt, by go_num, HR', k9⟩
            case measure => simp [intOf]; omega
          | false =>
            have HR' : Hid ((8, k + 1) = (r, p)) := by
              show _ = _
              rw [← HQ.out, HS'.out, if_neg (by decide)]
            clear HS' HQ
            go_wp2
            go_region_held3 (fun w' => w'.cell? ⟨g, off + k * 4, none⟩ = some (.int .i64 ep) ∧ w'.cell? ⟨g, off + k * 4 + 1, none⟩ = some (.int .u64 (rt : Int)) ∧ w'.cell? ⟨g, off + k * 4 + 2, none⟩ = some (.int .u64 (pv : Int)) ∧ w'.cell? ⟨g, off + k * 4 + 3, none⟩ = some (.int .i64 tm) ∧ w'.cell? ⟨g, off + (k + 1) * 4, none⟩ = some (.int .i64 fp) ∧ w'.cell? ⟨g, off + (k + 1) * 4 + 1, none⟩ = some (.int .u64 (st : Int)) ∧ w'.cell? ⟨g, off + (k + 1) * 4 + 2, none⟩ = some (.int .u64 (qv : Int)) ∧ w'.cell? ⟨g, off + (k + 1) * 4 + 3, none⟩ = some (.int .i64 um) ∧ Below w.heap.size w w') (first | exact ⟨h1, h2, h3, h4, j1, j2, j3, j4, h9⟩ | exact ⟨by assumption, by assumption, by assumption, by assumption, by assumption, by assumption, by assumption, by assumption, by assumption⟩ | go_keep)
              (first | (go_at_call 62; refine (hL' _ ?_).out.mono ?_; (first | exact ⟨by assumption, by assumption, by assumption, by assumption, by assumption, by assumption, by assumption, by assumption, by assumption⟩); rintro e w' ⟨rfl, k1, k2, k3, k4, k5, k6, k7, k8, k9⟩))
            go_wp2
            go_ret2
            injection HR'.out with e1 e2
            subst e1; subst e2
            exact ⟨rfl, k9⟩
        · have HR' : Hid ((0, 0) = (r, p)) := by
            show _ = _
            rw [← HQ.out, HS.out, List.drop_eq_getElem_cons (by omega), List.drop_eq_nil_of_le (by omega)]
            rfl
          clear HS HQ
          go_wp2
          go_ret2
          injection HR'.out with e1 e2
          subst e1; subst e2
          exact ⟨rfl, hbl'⟩
end Go.Proofs.YtjcockcilkiggaaGreat
/- Package chain: last, between, Follows. They write nothing that was there. -/
namespace Go.Proofs.YtjcockcilkiggaaGreat
set_option maxRecDepth 100000
open Go.RowKit

/-- A function whose one result lies in a cell. -/
theorem results_cellOne {fn : Func} {p : Tmp} {ty : TypeId} (h : fn.results = #[.cell p ty]) (tmps : Array Value) (P : Program) (w : World) :
    (results fn tmps).run P w = ((asAddr (tmps.getD p undef)).run P w).andThen fun a w₁ => (loadVar ty a).run P w₁ := by
  simp only [results, h]
  simp [Sem.run_bind, Result.andThen]

/-- The last head of a list. -/
def lastH (l : List Hd) : Hd := l[l.length - 1]?.getD (0, 0, 0, 0)
theorem lastH_eq {l : List Hd} (h : l.length - 1 < l.length) : lastH l = l[l.length - 1] := by simp [lastH, h]
theorem lastH_at {l : List Hd} {n : Nat} (h : l.length = n + 1) : lastH l = l[n]'(by omega) := by
  have e : l.length - 1 = n := by omega
  simp only [lastH, e]
  rw [List.getElem?_eq_getElem (by omega)]
  rfl
/-- The first head of a list. -/
def firstH (l : List Hd) : Hd := l[0]?.getD (0, 0, 0, 0)
theorem firstH_at {l : List Hd} (h : 0 < l.length) : firstH l = l[0] := by simp [firstH, h]

set_option maxHeartbeats 1000000 in
theorem chainLast (A : Option Addr) (c : Nat) (l : List Hd) (w : World) (h0 : 0 < l.length) (hm : l.length ≤ maxLen) (hA : Row w A (hcells l)) (ep : Int) (rt pv : Nat) (tm : Int) (hx : lastH l = (ep, rt, pv, tm)) :
    Calls Tryz.prog 72 #[.slice A l.length c] w fun e w' => e = .returned (.agg #[.int .i64 ep, .int .u64 (rt : Int), .int .u64 (pv : Int), .int .i64 tm]) ∧ Below w.heap.size w w' := by
  unfold maxLen at hm
  obtain ⟨n, hn⟩ : ∃ n, l.length = n + 1 := ⟨l.length - 1, by omega⟩
  rw [lastH_at hn] at hx
  have hA0 := hA.alloc (.cells #[.int .i64 0, .int .u64 0, .int .u64 0, .int .i64 0] 45)
  obtain ⟨g, off, rfl, h1, h2, h3, h4⟩ := hA0.head n (by omega)
  rw [hx] at h1 h2 h3 h4
  rw [hn] at hm ⊢
  clear hx hA hA0 hn h0
  dsimp only at h1 h2 h3 h4
  have i2 : (0 : Int) ≤ (n : Int) := by omega
  have hb9 : Below w.heap.size w (w.alloc (.cells #[.int .i64 ep, .int .u64 (rt : Int), .int .u64 (pv : Int), .int .i64 tm] 45)) := (Below.refl _ _).alloc (Nat.le_refl _) _
  have hz9 := Bx.new w _ rfl _ [.int .i64 ep, .int .u64 (rt : Int), .int .u64 (pv : Int), .int .i64 tm] 45 rfl
  go_enter Tryz.func72, Tryz.ntmps72
  go_wp2
  generalize (w.alloc (.cells #[.int .i64 ep, .int .u64 (rt : Int), .int .u64 (pv : Int), .int .i64 tm] 45)) = w9 at *
  obtain ⟨⟨r0, r1, r2, r3⟩, _⟩ := hz9.get4
  refine bodyPost_ret (v := .agg #[.int .i64 ep, .int .u64 (rt : Int), .int .u64 (pv : Int), .int .i64 tm]) ?_ rfl ⟨rfl, hb9⟩
  rw [results_cellOne rfl]
  go_simp

/-- A part of a list of heads, in the list's own memory. -/
def PartOf (T : List Hd) (w : World) (e : Ending) (w' : World) : Prop := ∃ B d, e = .returned (.slice B T.length d) ∧ Row w B (hcells T) ∧ T.length ≤ d ∧ w = w'
/-- The heads from a place on, so many. -/
def cut (l : List Hd) (p n : Nat) : List Hd := (l.drop p).take n
theorem cut_length (l : List Hd) (p n : Nat) (h : p + n ≤ l.length) : (cut l p n).length = n := by rw [cut, List.length_take, List.length_drop]; omega
theorem cut_get (l : List Hd) (p n i : Nat) (h : p + n ≤ l.length) (hi : i < n) : (cut l p n)[i]'(by rw [cut_length l p n h]; exact hi) = l[p + i]'(by omega) := by
  simp only [cut, List.getElem_take, List.getElem_drop]
end Go.Proofs.YtjcockcilkiggaaGreat
