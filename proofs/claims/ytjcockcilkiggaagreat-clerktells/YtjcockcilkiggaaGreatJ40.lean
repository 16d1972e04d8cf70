/- Package clerk: Book at a clerk, whatever it is. It writes nothing that was there. -/
import Derived.Test.YtjcockcilkiggaaGreatJ29
import Derived.Test.YtjcockcilkiggaaGreatJ31
import Derived.Test.YtjcockcilkiggaaGreatJ35
import Derived.Test.YtjcockcilkiggaaGreatJ39
namespace Go.Proofs.YtjcockcilkiggaaGreat
set_option maxRecDepth 100000
open Go.RowKit

/-- What Book returns: a book and an error. -/
def bookAns (k : Ck) (ep : Int) : List Ent × Int := if ckfault k = 0 then (if ep < 0 ∨ (k.books.length : Int) ≤ ep then ([], 4) else (k.books[ep.toNat]?.getD [], 0)) else ([], ckfault k)
def BkGives (T : List Ent) (r : Int) (w : World) (x : Ending) (w' : World) : Prop := ∃ D d, x = .returned (.tuple #[.slice D T.length d, .int .i64 r]) ∧ w'.ownsRow w.heap.size 51 2 (.slice D T.length d) T.length (encells T) ∧ Below w.heap.size w w'
set_option maxHeartbeats 4000000 in
theorem clerkBook (most ba ev nw : Int) (l : List Ak) (hs : List Hd) (ps : List Bp) (A H B : Option Addr) (c d e : Nat) (ep : Int) (w : World) (hl : l.length ≤ maxLen) (hlf : ∀ x ∈ l, AkFits x) (hh : hs.length ≤ maxLen) (hp : ps.length ≤ maxLen) (hpb : ∀ p ∈ ps, p.2.2.length ≤ maxLen ∧ ∀ x ∈ p.2.2, x.1.length ≤ maxLen ∧ x.2.length ≤ maxLen) (hA : Row w A (qcells l)) (hH : Row w H (hcells hs)) (hB : Books w B ps) (T : List Ent) (r : Int) (hr : bookAns ⟨most, l, ba, ev, nw, hs, bks ps⟩ ep = (T, r)) :
    Calls Tryz.prog 7 #[.agg #[.int .i64 most, .slice A l.length c, .int .i64 ba, .int .i64 ev, .int .i64 nw, .slice H hs.length d, .slice B ps.length e], .int .i64 ep] w (BkGives T r w) := by
  have hb0 : Below w.heap.size w (w.alloc (.cells #[.int .i64 most, .slice A l.length c, .int .i64 ba, .int .i64 ev, .int .i64 nw, .slice H hs.length d, .slice B ps.length e] 28)) := balloc (Below.refl _ _) _
  have x0 := Bx.new w _ rfl _ [.int .i64 most, .slice A l.length c, .int .i64 ba, .int .i64 ev, .int .i64 nw, .slice H hs.length d, .slice B ps.length e] 28 rfl
  have hA0 := hA.below hb0
  have hH0 := hH.below hb0
  have hB0 := hB.below hb0
  obtain ⟨a0, a1, a2, a3, a4, a5, a6⟩ := x0.get7
  unfold bookAns at hr
  by_cases k0 : ckfault ⟨most, l, ba, ev, nw, hs, bks ps⟩ = 0
  case neg =>
    rw [if_neg k0, Prod.mk.injEq] at hr
    obtain ⟨rfl, rfl⟩ := hr
    have hCk := fun (w : World) h1 h2 h3 => Lib.hid (clerkCheck most ba ev nw l hs ps A H B c d e w hl hlf hh hp hpb h1 h2 h3 _ rfl)
    generalize ckfault ⟨most, l, ba, ev, nw, hs, bks ps⟩ = r at *
    have c0 : (r != 0) = true := bne_iff_ne.2 k0
    clear hl hlf hh hp hpb hA hH hB k0 x0
    go_enter Tryz.func7, Tryz.ntmps7
    go_wp2_with fail
    refine (hCk _ hA0 hH0 hB0).out.mono ?_
    rintro xx w1 ⟨rfl, hb1⟩
    go_wp2
    go_ret2
    exact ⟨none, 0, rfl, own_nilAny _ _ _ _, below_chain hb0 hb1⟩
  case pos =>
    rw [if_pos k0] at hr
    have hg := (ckfault_ok _).1 k0
    have hCk := fun (w : World) h1 h2 h3 => Lib.hid (clerkCheck most ba ev nw l hs ps A H B c d e w hl hlf hh hp hpb h1 h2 h3 0 k0)
    have hph : ps.length ≤ 40 := by
      have := hg.form
      have h40 := hg.chain.len
      unfold formBad at this
      dsimp only at this h40
      rw [bks_length] at this
      omega
    dsimp only at hr
    rw [bks_length] at hr
    by_cases k1 : ep < 0 ∨ (ps.length : Int) ≤ ep
    case pos =>
      rw [if_pos k1, Prod.mk.injEq] at hr
      obtain ⟨rfl, rfl⟩ := hr
      clear hl hlf hh hp hpb hA hH hB k0 hg
      cases c1 : decide (ep < 0) with
      | true =>
        clear k1
        go_enter Tryz.func7, Tryz.ntmps7
        go_wp2_with fail
        refine (hCk _ hA0 hH0 hB0).out.mono ?_
        rintro xx w1 ⟨rfl, hb1⟩
        go_wp2
        go_ret2
        exact ⟨none, 0, rfl, own_nilAny _ _ _ _, below_chain hb0 hb1⟩
      | false =>
        have c2 : decide ((ps.length : Int) ≤ ep) = true := decide_eq_true (by have := of_decide_eq_false c1; omega)
        clear k1
        go_enter Tryz.func7, Tryz.ntmps7
        go_wp2_with fail
        refine (hCk _ hA0 hH0 hB0).out.mono ?_
        rintro xx w1 ⟨rfl, hb1⟩
        have x1 := x0.below hb1
        clear a0 a1 a2 a3 a4 a5 a6
        obtain ⟨a0, a1, a2, a3, a4, a5, a6⟩ := x1.get7
        go_wp2
        go_ret2
        exact ⟨none, 0, rfl, own_nilAny _ _ _ _, below_chain hb0 hb1⟩
    case neg =>
      rw [if_neg k1, Prod.mk.injEq] at hr
      obtain ⟨hT, rfl⟩ := hr
      obtain ⟨k, rfl⟩ : ∃ k : Nat, ep = (k : Int) := ⟨ep.toNat, by omega⟩
      have hk : k < ps.length := by omega
      rw [Int.toNat_natCast, List.getElem?_eq_getElem (by rw [bks_length]; exact hk), Option.getD_some, bks_get ps k hk] at hT
      have hpk := hpb _ (List.getElem_mem hk)
      have i0 : (0 : Int) ≤ (k : Int) := by omega
      have i1 : (k : Int) < (ps.length : Int) := by omega
      have c1 : decide ((k : Int) < 0) = false := decide_eq_false (by omega)
      have c2 : decide ((ps.length : Int) ≤ (k : Int)) = false := decide_eq_false (by omega)
      have c3 : decide (ps.length ≤ k) = false := decide_eq_false (by omega)
      obtain ⟨gB, oB, rfl, jB, rB⟩ := hB0.get k hk
      rw [hT] at jB rB hpk
      have hes : T.length ≤ 1000 := by
        have := (hg.each k (by show k < (bks ps).length; rw [bks_length]; exact hk) (by have := hg.form; unfold formBad at this; dsimp only at this ⊢; rw [bks_length] at this; omega)).1.len
        have e : (bks ps)[k]'(by rw [bks_length]; exact hk) = T := by rw [bks_get ps k hk, hT]
        have : T.length ≤ 24 := e ▸ this
        omega
      generalize ps[k].1 = P1 at *
      generalize ps[k].2.1 = P2 at *
      have hCe := fun (w : World) h => Lib.hid (cloneEntsS P1 P2 T w (by omega) h)
      have HK := Lib.hid hk
      clear hl hlf hh hp hpb hA hH hB k0 hg k1 hT hpk hk
      go_enter Tryz.func7, Tryz.ntmps7
      go_wp2_with fail
      refine (hCk _ hA0 hH0 hB0).out.mono ?_
      rintro xx w1 ⟨rfl, hb1⟩
      have x1 := x0.below hb1
      have jB1 := kept jB hb1
      have rB1 := rB.below hb1
      have hb01 := below_chain hb0 hb1
      have hbs := hb01.size
      clear a0 a1 a2 a3 a4 a5 a6 x0 jB rB hb1 hb0 hA0 hH0 hB0 hCk
      obtain ⟨a0, a1, a2, a3, a4, a5, a6⟩ := x1.get7
      go_wp2_with fail
      refine (hCe _ rB1).out.mono ?_
      rintro xx w2 ⟨D, d2, rfl, hown, hb2⟩
      go_wp2
      go_ret2
      exact ⟨D, d2, rfl, own_baseQ hown.row hbs, below_chain hb01 hb2⟩
end Go.Proofs.YtjcockcilkiggaaGreat
/- Package clerk at a clerk as one letter: Check, Ask, Tick, Book; what stays of a clerk. They write nothing that was there. -/
namespace Go.Proofs.YtjcockcilkiggaaGreat
set_option maxRecDepth 100000
open Go.RowKit

theorem ask_small {n v : Bytes} (h : askFault n v = 0) : n.length ≤ maxLen ∧ v.length ≤ maxLen := by
  obtain ⟨h1, h2⟩ := (askFault_ok _ _).1 h
  have := Bin.name_len h1
  unfold maxLen
  omega
/-- A clerk that is right is small. -/
structure CkSmall (l : List Ak) (hs : List Hd) (ps : List Bp) : Prop where
  q : l.length ≤ 30
  f : ∀ x ∈ l, AkFits x
  h : hs.length ≤ 40
  h0 : 0 < hs.length
  b : ps.length = hs.length
  e : ∀ p ∈ ps, p.2.2.length ≤ 24 ∧ ∀ x ∈ p.2.2, x.1.length ≤ 20 ∧ x.2.length ≤ 20
theorem ck_small {k : Ck} (hg : CkGood k) (ps : List Bp) (hps : bks ps = k.books) : CkSmall k.wait k.heads ps := by
  have hq := hg.queue
  have hb : ps.length = k.heads.length := by
    have := hg.form
    unfold formBad at this
    have h2 := congrArg List.length hps
    rw [bks_length] at h2
    omega
  refine ⟨by have := hq.len; have := hq.m30; omega, fun x hx => ask_small (hq.each x hx), hg.chain.len, hg.chain.pos, hb, fun p hp => ?_⟩
  obtain ⟨i, hi, rfl⟩ := List.getElem_of_mem hp
  have hi2 : i < k.books.length := by rw [← hps, bks_length]; exact hi
  have h1 := (hg.each i hi2 (by omega)).1
  have e : k.books[i] = ps[i].2.2 := by rw [← bks_get ps i hi]; congr 1; exact hps.symm
  rw [e] at h1
  refine ⟨h1.len, fun x hx => ⟨?_, h1.value x hx⟩⟩
  have := Bin.name_len (h1.name x hx)
  omega
theorem CkSmall.m {l : List Ak} {hs : List Hd} {ps : List Bp} (h : CkSmall l hs ps) : l.length ≤ maxLen ∧ hs.length ≤ maxLen ∧ ps.length ≤ maxLen ∧ ∀ p ∈ ps, p.2.2.length ≤ maxLen ∧ ∀ x ∈ p.2.2, x.1.length ≤ maxLen ∧ x.2.length ≤ maxLen := by
  have h1 := h.q
  have h2 := h.h
  have h3 := h.b
  refine ⟨by unfold maxLen; omega, by unfold maxLen; omega, by unfold maxLen; omega, fun p hp => ?_⟩
  obtain ⟨h4, h5⟩ := h.e p hp
  refine ⟨by unfold maxLen; omega, fun x hx => ?_⟩
  have := h5 x hx
  unfold maxLen
  omega
/-- What stood in a clerk still stands in another. -/
structure CkExt (k0 k : Ck) : Prop where
  hl : k0.heads.length ≤ k.heads.length
  bl : k0.books.length ≤ k.books.length
  h : k.heads.take k0.heads.length = k0.heads
  b : k.books.take k0.books.length = k0.books
theorem CkExt.refl (k : Ck) : CkExt k k := ⟨Nat.le_refl _, Nat.le_refl _, List.take_length, List.take_length⟩
theorem CkExt.asked {k0 k : Ck} (h : CkExt k0 k) (a : Ak) : CkExt k0 (ckAsked k a) := ⟨h.hl, h.bl, h.h, h.b⟩
theorem CkExt.tick {k0 k : Ck} (h : CkExt k0 k) : CkExt k0 (ckTick k).1 := by
  unfold ckTick
  split
  · exact h
  · split
    · refine ⟨?_, ?_, ?_, ?_⟩
      · dsimp only; rw [List.length_append]; have := h.hl; omega
      · dsimp only; rw [List.length_append]; have := h.bl; omega
      · dsimp only; rw [List.take_append_of_le_length h.hl]; exact h.h
      · dsimp only; rw [List.take_append_of_le_length h.bl]; exact h.b
    · exact ⟨h.hl, h.bl, h.h, h.b⟩
theorem clerkCheckG (k : Ck) (A I B : Option Addr) (c d e : Nat) (ps : List Bp) (hps : bks ps = k.books) (w : World) (hg : CkGood k) (hA : Row w A (qcells k.wait)) (hI : Row w I (hcells k.heads)) (hB : Books w B ps) :
    Calls Tryz.prog 11 #[.agg #[.int .i64 k.most, .slice A k.wait.length c, .int .i64 k.batch, .int .i64 k.every, .int .i64 k.now, .slice I k.heads.length d, .slice B ps.length e]] w fun x w' => x = .returned (.int .i64 0) ∧ Below w.heap.size w w' := by
  have hs := ck_small hg ps hps
  obtain ⟨m1, m2, m3, m4⟩ := hs.m
  exact clerkCheck k.most k.batch k.every k.now k.wait k.heads ps A I B c d e w m1 hs.f m2 m3 m4 hA hI hB 0 (by rw [hps]; exact (ckfault_ok k).2 hg)
/-- A clerk in rows of the call's own, and a time. -/
def AkGives (k : Ck) (due : Int) (w : World) (x : Ending) (w' : World) : Prop :=
  ∃ D d E f F h qs, x = .returned (.tuple #[.agg #[.int .i64 k.most, .slice D k.wait.length d, .int .i64 k.batch, .int .i64 k.every, .int .i64 k.now, .slice E k.heads.length f, .slice F qs.length h], .int .i64 due, .int .i64 0]) ∧ bks qs = k.books ∧ OwnCk w' w.heap.size k.wait k.heads D E F d f h qs ∧ Below w.heap.size w w'
theorem clerkAskG_no (k : Ck) (A I B : Option Addr) (c d e : Nat) (ps : List Bp) (hps : bks ps = k.books) (n v : Bytes) (x t : Nat) (w : World) (hn : n.length ≤ maxLen) (hv : v.length ≤ maxLen) (hg : CkGood k) (hA : Row w A (qcells k.wait)) (hI : Row w I (hcells k.heads)) (hB : Books w B ps)
    (r : Int) (hr : ckAskErr k n v = r) (h0 : r ≠ 0) :
    Calls Tryz.prog 5 #[.agg #[.int .i64 k.most, .slice A k.wait.length c, .int .i64 k.batch, .int .i64 k.every, .int .i64 k.now, .slice I k.heads.length d, .slice B ps.length e], .agg #[.string (S n), .string (S v), .int .u64 (x : Int), .int .u64 (t : Int)]] w (ClerkNo r w) := by
  have hs := ck_small hg ps hps
  obtain ⟨m1, m2, m3, m4⟩ := hs.m
  exact clerkAsk_admit k.most k.batch k.every k.now k.wait k.heads ps A I B c d e n v x t w m1 hs.f m2 m3 m4 hn hv hA hI hB (by rw [hps]; exact hg) r (by rw [hps]; exact hr) h0
theorem clerkAskG_ok (k : Ck) (A I B : Option Addr) (c d e : Nat) (ps : List Bp) (hps : bks ps = k.books) (n v : Bytes) (x t : Nat) (w : World) (hn : n.length ≤ maxLen) (hv : v.length ≤ maxLen) (hg : CkGood k) (hA : Row w A (qcells k.wait)) (hI : Row w I (hcells k.heads)) (hB : Books w B ps)
    (hr : ckAskErr k n v = 0) (k2 : Ck) (hk : ckAsked k (n, v, x, t) = k2) (due : Int) (hd : dueOf k = due) :
    Calls Tryz.prog 5 #[.agg #[.int .i64 k.most, .slice A k.wait.length c, .int .i64 k.batch, .int .i64 k.every, .int .i64 k.now, .slice I k.heads.length d, .slice B ps.length e], .agg #[.string (S n), .string (S v), .int .u64 (x : Int), .int .u64 (t : Int)]] w (AkGives k2 due w) := by
  have hs := ck_small hg ps hps
  obtain ⟨m1, m2, m3, m4⟩ := hs.m
  subst hk
  refine (clerkAsk_ok k.most k.batch k.every k.now k.wait k.heads ps A I B c d e n v x t w m1 hs.f m2 m3 m4 hn hv hA hI hB (by rw [hps]; exact hg) (by rw [hps]; exact hr) due (by rw [hps]; exact hd)).mono ?_
  rintro xx w' ⟨D, d, E, f, F, h, qs, rfl, hq, hO, hb⟩
  exact ⟨D, d, E, f, F, h, qs, rfl, by rw [hq, hps]; rfl, hO, hb⟩
theorem clerkTickG (k : Ck) (A I B : Option Addr) (c d e : Nat) (ps : List Bp) (hps : bks ps = k.books) (w : World) (hg : CkGood k) (hA : Row w A (qcells k.wait)) (hI : Row w I (hcells k.heads)) (hB : Books w B ps) (k2 : Ck) (b : Bool) (hk : ckTick k = (k2, b)) :
    Calls Tryz.prog 6 #[.agg #[.int .i64 k.most, .slice A k.wait.length c, .int .i64 k.batch, .int .i64 k.every, .int .i64 k.now, .slice I k.heads.length d, .slice B ps.length e]] w (TkGives k2 b w) := by
  have hs := ck_small hg ps hps
  obtain ⟨m1, m2, m3, m4⟩ := hs.m
  obtain ⟨most, l, ba, ev, nw, hs', bs⟩ := k
  dsimp only at hps
  subst hps
  unfold ckTick at hk
  dsimp only at hk ⊢
  cases hc : closedB ⟨most, l, ba, ev, nw, hs', bks ps⟩ with
  | true =>
    have hc' := hc
    unfold closedB at hc'
    dsimp only at hc'
    rw [if_pos hc', Prod.mk.injEq] at hk
    obtain ⟨rfl, rfl⟩ := hk
    exact clerkTick_closed most ba ev nw l hs' ps A I B c d e w m1 hs.f m2 m3 m4 hA hI hB hg hc
  | false =>
    have hc' := hc
    unfold closedB at hc'
    dsimp only at hc'
    rw [if_neg (by rw [hc']; decide)] at hk
    by_cases hd : (nw + 1) % ev = 0
    · rw [if_pos hd, Prod.mk.injEq] at hk
      obtain ⟨rfl, rfl⟩ := hk
      exact clerkTick_due most ba ev nw l hs' ps A I B c d e w m1 hs.f m2 m3 m4 hA hI hB hg hc hd
    · rw [if_neg hd, Prod.mk.injEq] at hk
      obtain ⟨rfl, rfl⟩ := hk
      exact clerkTick_none most ba ev nw l hs' ps A I B c d e w m1 hs.f m2 m3 m4 hA hI hB hg hc hd
theorem clerkBookG (k : Ck) (A I B : Option Addr) (c d e : Nat) (ps : List Bp) (hps : bks ps = k.books) (i : Nat) (hi : i < k.books.length) (w : World) (hg : CkGood k) (hA : Row w A (qcells k.wait)) (hI : Row w I (hcells k.heads)) (hB : Books w B ps) (T : List Ent) (hT : k.books[i] = T) :
    Calls Tryz.prog 7 #[.agg #[.int .i64 k.most, .slice A k.wait.length c, .int .i64 k.batch, .int .i64 k.every, .int .i64 k.now, .slice I k.heads.length d, .slice B ps.length e], .int .i64 (i : Int)] w (BkGives T 0 w) := by
  have hs := ck_small hg ps hps
  obtain ⟨m1, m2, m3, m4⟩ := hs.m
  refine clerkBook k.most k.batch k.every k.now k.wait k.heads ps A I B c d e (i : Int) w m1 hs.f m2 m3 m4 hA hI hB T 0 ?_
  rw [hps]
  unfold bookAns
  rw [if_pos ((ckfault_ok k).2 hg), if_neg (by dsimp only; omega)]
  dsimp only
  rw [Int.toNat_natCast, List.getElem?_eq_getElem hi, hT]
  rfl
end Go.Proofs.YtjcockcilkiggaaGreat
