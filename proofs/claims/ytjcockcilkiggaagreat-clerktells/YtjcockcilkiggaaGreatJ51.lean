/- What New, Ask and Tick answer whatever they are given, and what the reference answers: a clerk's value each. They write nothing that was there. -/
import Derived.Test.YtjcockcilkiggaaGreatJ40
import Derived.Test.YtjcockcilkiggaaGreatJ41
import Derived.Test.YtjcockcilkiggaaGreatJ46
import Derived.Test.YtjcockcilkiggaaGreatJ49
import Derived.Test.YtjcockcilkiggaaGreatJ34
import Derived.Test.YtjcockcilkiggaaGreatJ50
import Derived.Test.YtjcockcilkiggaaGreatJ10
import Derived.Test.YtjcockcilkiggaaGreatJ02
import Derived.ProofKit
import Derived.OpenShut
import Derived.ChangeSame
import Derived.SizedLaws
import Derived.ChangeSlices
import Derived.Lib.SmallJoins
import Derived.Deep.Slices
import Derived.Deep.SlicePairs
namespace Go.Proofs.YtjcockcilkiggaaGreat
set_option maxRecDepth 100000
open Go.RowKit

/-- No clerk. -/
def noneC : Ck := ⟨0, [], 0, 0, 0, [], []⟩
/-- The rows behind a clerk's value. -/
structure CkAt (W : World) (k : Ck) (A I B : Option Addr) (ps : List Bp) : Prop where
  bq : bks ps = k.books
  q : Row W A (qcells k.wait)
  hd : Row W I (hcells k.heads)
  bk : Books W B ps
theorem CkAt.below {W W' : World} {k : Ck} {A I B : Option Addr} {ps : List Bp} (h : CkAt W k A I B ps) (hb : Below W.heap.size W W') : CkAt W' k A I B ps :=
  ⟨h.bq, h.q.below hb, h.hd.below hb, h.bk.below hb⟩
theorem CkAt.none (W : World) : CkAt W noneC none none none [] := ⟨rfl, Row.nil_ _ _, Row.nil_ _ _, Books.nil _ _⟩
theorem OwnCk.at' {W : World} {b : Nat} {k : Ck} {D E F : Option Addr} {d f h : Nat} {qs : List Bp} (o : OwnCk W b k.wait k.heads D E F d f h qs) (hq : bks qs = k.books) : CkAt W k D E F qs :=
  ⟨hq, Row.ownN o.q, Row.ownN o.hd, o.books⟩
/-- A clerk's sizes, within the form's reach. -/
structure CkFit (k : Ck) : Prop where
  q : k.wait.length ≤ maxLen
  f : ∀ x ∈ k.wait, AkFits x
  h : k.heads.length ≤ maxLen
  b : k.books.length ≤ maxLen
  e : ∀ b ∈ k.books, b.length ≤ maxLen ∧ ∀ x ∈ b, x.1.length ≤ maxLen ∧ x.2.length ≤ maxLen
theorem CkFit.bp {k : Ck} (h : CkFit k) {ps : List Bp} (hq : bks ps = k.books) : ps.length ≤ maxLen ∧ ∀ p ∈ ps, p.2.2.length ≤ maxLen ∧ ∀ x ∈ p.2.2, x.1.length ≤ maxLen ∧ x.2.length ≤ maxLen :=
  ⟨by rw [← bks_length, hq]; exact h.b, fun p hp => h.e _ (by rw [← hq]; exact List.mem_map_of_mem hp)⟩
structure CkTiny (k : Ck) : Prop where
  q : k.wait.length ≤ 1000
  h : k.heads.length ≤ 1000
  b : k.books.length ≤ 1000
  e : ∀ b ∈ k.books, b.length ≤ 1000
theorem CkTiny.none : CkTiny noneC := ⟨Nat.zero_le _, Nat.zero_le _, Nat.zero_le _, fun b hb => by cases hb⟩
theorem CkTiny.good {k : Ck} (h : CkGood k) : CkTiny k := by
  have hf := h.form
  unfold formBad at hf
  have h40 := h.chain.len
  have hq := h.queue.len
  have hm := h.queue.m30
  refine ⟨by omega, by omega, by omega, fun b hb => ?_⟩
  obtain ⟨i, hi, rfl⟩ := List.getElem_of_mem hb
  have := (h.each i hi (by omega)).1.len
  omega
/-- A clerk and an error. -/
def NwT (k : Ck) (r : Int) (w : World) (x : Ending) (w' : World) : Prop :=
  ∃ A c I d B e ps, x = .returned (.tuple #[.agg #[.int .i64 k.most, .slice A k.wait.length c, .int .i64 k.batch, .int .i64 k.every, .int .i64 k.now, .slice I k.heads.length d, .slice B ps.length e], .int .i64 r]) ∧ CkAt w' k A I B ps ∧ Below w.heap.size w w'
/-- A clerk, a time and an error. -/
def AkT (k : Ck) (due r : Int) (w : World) (x : Ending) (w' : World) : Prop :=
  ∃ A c I d B e ps, x = .returned (.tuple #[.agg #[.int .i64 k.most, .slice A k.wait.length c, .int .i64 k.batch, .int .i64 k.every, .int .i64 k.now, .slice I k.heads.length d, .slice B ps.length e], .int .i64 due, .int .i64 r]) ∧ CkAt w' k A I B ps ∧ Below w.heap.size w w'
/-- A clerk, whether a book was added, and an error. -/
def TkT (k : Ck) (b : Bool) (r : Int) (w : World) (x : Ending) (w' : World) : Prop :=
  ∃ A c I d B e ps, x = .returned (.tuple #[.agg #[.int .i64 k.most, .slice A k.wait.length c, .int .i64 k.batch, .int .i64 k.every, .int .i64 k.now, .slice I k.heads.length d, .slice B ps.length e], .bool b, .int .i64 r]) ∧ CkAt w' k A I B ps ∧ Below w.heap.size w w'
/-- A clerk, and whether a book was added. -/
def RtT (k : Ck) (b : Bool) (w : World) (x : Ending) (w' : World) : Prop :=
  ∃ A c I d B e ps, x = .returned (.tuple #[.agg #[.int .i64 k.most, .slice A k.wait.length c, .int .i64 k.batch, .int .i64 k.every, .int .i64 k.now, .slice I k.heads.length d, .slice B ps.length e], .bool b]) ∧ CkAt w' k A I B ps ∧ Below w.heap.size w w'

/-- What New answers. -/
def newRes (most ba ev : Int) : Ck × Int :=
  if most < 1 ∨ 30 < most ∨ ba < 1 ∨ 30 < ba ∨ ev < 1 ∨ 1000 < ev then (noneC, 4) else (⟨most, [], ba, ev, 0, [(0, nil0, 0, 0)], [[]]⟩, 0)
/-- What Ask answers. -/
def askRes (k : Ck) (a : Ak) : Ck × Int × Int :=
  if ckfault k = 0 then (if ckAskErr k a.1 a.2.1 = 0 then (ckAsked k a, dueOf k, 0) else (noneC, 0, ckAskErr k a.1 a.2.1)) else (noneC, 0, ckfault k)
/-- What Tick answers. -/
def tickRes (k : Ck) : Ck × Bool × Int := if ckfault k = 0 then ((ckTick k).1, (ckTick k).2, 0) else (noneC, false, ckfault k)

theorem newT (most ba ev : Int) (k : Ck) (r : Int) (hr : newRes most ba ev = (k, r)) (w : World) : Calls Tryz.prog 4 #[.int .i64 most, .int .i64 ba, .int .i64 ev] w (NwT k r w) := by
  unfold newRes at hr
  by_cases h : most < 1 ∨ 30 < most ∨ ba < 1 ∨ 30 < ba ∨ ev < 1 ∨ 1000 < ev
  · rw [if_pos h, Prod.mk.injEq] at hr
    obtain ⟨rfl, rfl⟩ := hr
    refine (clerkNew_no most ba ev w 4 (by rw [new_fault, if_pos h]) (by decide)).mono ?_
    rintro xx w' ⟨rfl, hb⟩
    exact ⟨none, 0, none, 0, none, 0, [], rfl, CkAt.none _, hb⟩
  · rw [if_neg h, Prod.mk.injEq] at hr
    obtain ⟨rfl, rfl⟩ := hr
    refine (clerkNew_ok most ba ev w (by rw [new_fault, if_neg h])).mono ?_
    rintro xx w' ⟨E, F, rfl, h1, h2, hb⟩
    exact ⟨none, 0, E, 1, F, 1, [(none, 0, [])], rfl, ⟨rfl, Row.nil_ _ _, h1, h2⟩, hb⟩
theorem askT (k : Ck) (hf : CkFit k) (A : Option Addr) (c : Nat) (I : Option Addr) (d : Nat) (B : Option Addr) (e : Nat) (ps : List Bp) (n v : Bytes) (x t : Nat) (hn : n.length ≤ maxLen) (hv : v.length ≤ maxLen) (w : World) (hk : CkAt w k A I B ps) (k2 : Ck) (due r : Int) (hr : askRes k (n, v, x, t) = (k2, due, r)) :
    Calls Tryz.prog 5 #[.agg #[.int .i64 k.most, .slice A k.wait.length c, .int .i64 k.batch, .int .i64 k.every, .int .i64 k.now, .slice I k.heads.length d, .slice B ps.length e], .agg #[.string (S n), .string (S v), .int .u64 (x : Int), .int .u64 (t : Int)]] w (AkT k2 due r w) := by
  obtain ⟨b1, b2⟩ := hf.bp hk.bq
  have hke : (⟨k.most, k.wait, k.batch, k.every, k.now, k.heads, bks ps⟩ : Ck) = k := by rw [hk.bq]
  unfold askRes at hr
  by_cases h0 : ckfault k = 0
  · rw [if_pos h0] at hr
    have hg := (ckfault_ok k).1 h0
    dsimp only at hr
    by_cases h1 : ckAskErr k n v = 0
    · rw [if_pos h1] at hr
      simp only [Prod.mk.injEq] at hr
      obtain ⟨rfl, rfl, rfl⟩ := hr
      refine (clerkAskG_ok k A I B c d e ps hk.bq n v x t w hn hv hg hk.q hk.hd hk.bk h1 _ rfl _ rfl).mono ?_
      rintro xx w' ⟨D, d2, E, f, F, h, qs, rfl, hq, hO, hb⟩
      exact ⟨D, d2, E, f, F, h, qs, rfl, hO.at' hq, hb⟩
    · rw [if_neg h1] at hr
      simp only [Prod.mk.injEq] at hr
      obtain ⟨rfl, rfl, rfl⟩ := hr
      refine (clerkAskG_no k A I B c d e ps hk.bq n v x t w hn hv hg hk.q hk.hd hk.bk _ rfl h1).mono ?_
      rintro xx w' ⟨rfl, hb⟩
      exact ⟨none, 0, none, 0, none, 0, [], rfl, CkAt.none _, hb⟩
  · rw [if_neg h0] at hr
    simp only [Prod.mk.injEq] at hr
    obtain ⟨rfl, rfl, rfl⟩ := hr
    refine (clerkAsk_fault k.most k.batch k.every k.now k.wait k.heads ps A I B c d e n v x t w hf.q hf.f hf.h b1 b2 hk.q hk.hd hk.bk _ (by rw [hke]) h0).mono ?_
    rintro xx w' ⟨rfl, hb⟩
    exact ⟨none, 0, none, 0, none, 0, [], rfl, CkAt.none _, hb⟩
theorem tickT (k : Ck) (hf : CkFit k) (A : Option Addr) (c : Nat) (I : Option Addr) (d : Nat) (B : Option Addr) (e : Nat) (ps : List Bp) (w : World) (hk : CkAt w k A I B ps) (k2 : Ck) (b : Bool) (r : Int) (hr : tickRes k = (k2, b, r)) :
    Calls Tryz.prog 6 #[.agg #[.int .i64 k.most, .slice A k.wait.length c, .int .i64 k.batch, .int .i64 k.every, .int .i64 k.now, .slice I k.heads.length d, .slice B ps.length e]] w (TkT k2 b r w) := by
  obtain ⟨b1, b2⟩ := hf.bp hk.bq
  have hke : (⟨k.most, k.wait, k.batch, k.every, k.now, k.heads, bks ps⟩ : Ck) = k := by rw [hk.bq]
  unfold tickRes at hr
  by_cases h0 : ckfault k = 0
  · rw [if_pos h0] at hr
    simp only [Prod.mk.injEq] at hr
    obtain ⟨rfl, rfl, rfl⟩ := hr
    have hg := (ckfault_ok k).1 h0
    refine (clerkTickG k A I B c d e ps hk.bq w hg hk.q hk.hd hk.bk _ _ rfl).mono ?_
    rintro xx w' ⟨D, d2, E, f, F, h, qs, rfl, hq, hO, hb⟩
    exact ⟨D, d2, E, f, F, h, qs, rfl, hO.at' hq, hb⟩
  · rw [if_neg h0] at hr
    simp only [Prod.mk.injEq] at hr
    obtain ⟨rfl, rfl, rfl⟩ := hr
    refine (clerkTick_fault k.most k.batch k.every k.now k.wait k.heads ps A I B c d e w hf.q hf.f hf.h b1 b2 hk.q hk.hd hk.bk _ (by rw [hke]) h0).mono ?_
    rintro xx w' ⟨rfl, hb⟩
    exact ⟨none, 0, none, 0, none, 0, [], rfl, CkAt.none _, hb⟩
theorem checkT (k : Ck) (hf : CkFit k) (A : Option Addr) (c : Nat) (I : Option Addr) (d : Nat) (B : Option Addr) (e : Nat) (ps : List Bp) (w : World) (hk : CkAt w k A I B ps) (r : Int) (hr : ckfault k = r) : Calls Tryz.prog 11 #[.agg #[.int .i64 k.most, .slice A k.wait.length c, .int .i64 k.batch, .int .i64 k.every, .int .i64 k.now, .slice I k.heads.length d, .slice B ps.length e]] w fun x w' => x = .returned (.int .i64 r) ∧ Below w.heap.size w w' := by
  obtain ⟨b1, b2⟩ := hf.bp hk.bq
  exact clerkCheck k.most k.batch k.every k.now k.wait k.heads ps A I B c d e w hf.q hf.f hf.h b1 b2 hk.q hk.hd hk.bk r (by rw [hk.bq]; exact hr)
theorem bookT (k : Ck) (hf : CkFit k) (A : Option Addr) (c : Nat) (I : Option Addr) (d : Nat) (B : Option Addr) (e : Nat) (ps : List Bp) (ep : Int) (w : World) (hk : CkAt w k A I B ps) (T : List Ent) (r : Int) (hr : bookAns k ep = (T, r)) : Calls Tryz.prog 7 #[.agg #[.int .i64 k.most, .slice A k.wait.length c, .int .i64 k.batch, .int .i64 k.every, .int .i64 k.now, .slice I k.heads.length d, .slice B ps.length e], .int .i64 ep] w (BkGives T r w) := by
  obtain ⟨b1, b2⟩ := hf.bp hk.bq
  exact clerkBook k.most k.batch k.every k.now k.wait k.heads ps A I B c d e ep w hf.q hf.f hf.h b1 b2 hk.q hk.hd hk.bk T r (by rw [hk.bq]; exact hr)
theorem refFaultT (k : Ck) (hf : CkFit k) (A : Option Addr) (c : Nat) (I : Option Addr) (d : Nat) (B : Option Addr) (e : Nat) (ps : List Bp) (w : World) (hk : CkAt w k A I B ps) (r : Int) (hr : ckfault k = r) : Calls Tryz.prog 10 #[.agg #[.int .i64 k.most, .slice A k.wait.length c, .int .i64 k.batch, .int .i64 k.every, .int .i64 k.now, .slice I k.heads.length d, .slice B ps.length e]] w fun x w' => x = .returned (.int .i64 r) ∧ Below w.heap.size w w' := by
  obtain ⟨b1, b2⟩ := hf.bp hk.bq
  exact refClerkFault k.most k.batch k.every k.now k.wait k.heads ps A I B c d e w hf.q hf.f hf.h b1 b2 hk.q hk.hd hk.bk r (by rw [hk.bq]; exact hr)
theorem refAskT (k : Ck) (hg : CkGood k) (A : Option Addr) (c : Nat) (I : Option Addr) (d : Nat) (B : Option Addr) (e : Nat) (ps : List Bp) (n v : Bytes) (x t : Nat) (hn : n.length ≤ maxLen) (hv : v.length ≤ maxLen) (w : World) (hk : CkAt w k A I B ps) (k2 : Ck) (due r : Int) (hr : askRes k (n, v, x, t) = (k2, due, r)) :
    Calls Tryz.prog 12 #[.agg #[.int .i64 k.most, .slice A k.wait.length c, .int .i64 k.batch, .int .i64 k.every, .int .i64 k.now, .slice I k.heads.length d, .slice B ps.length e], .agg #[.string (S n), .string (S v), .int .u64 (x : Int), .int .u64 (t : Int)]] w (AkT k2 due r w) := by
  have hke : (⟨k.most, k.wait, k.batch, k.every, k.now, k.heads, bks ps⟩ : Ck) = k := by rw [hk.bq]
  unfold askRes at hr
  rw [if_pos ((ckfault_ok k).2 hg)] at hr
  dsimp only at hr
  by_cases h1 : ckAskErr k n v = 0
  · rw [if_pos h1] at hr
    simp only [Prod.mk.injEq] at hr
    obtain ⟨rfl, rfl, rfl⟩ := hr
    refine (refClerkAsk_ok k.most k.batch k.every k.now k.wait k.heads ps A I B c d e n v x t w (by rw [hke]; exact hg) hn hv hk.q hk.bk hk.hd (by rw [hke]; exact h1) (dueOf k) (by rw [hke])).mono ?_
    rintro xx w' ⟨D, d2, E, f, F, h, qs, rfl, hq, hO, hb⟩
    exact ⟨D, d2, E, f, F, h, qs, rfl, OwnCk.at' (k := ckAsked k (n, v, x, t)) hO (by rw [hq, hk.bq]; rfl), hb⟩
  · rw [if_neg h1] at hr
    simp only [Prod.mk.injEq] at hr
    obtain ⟨rfl, rfl, rfl⟩ := hr
    refine (refClerkAsk_no k.most k.batch k.every k.now k.wait k.heads ps A I B c d e n v x t w (by rw [hke]; exact hg) hn hv hk.q hk.bk _ (by rw [hke]) h1).mono ?_
    rintro xx w' ⟨rfl, hb⟩
    exact ⟨none, 0, none, 0, none, 0, [], rfl, CkAt.none _, hb⟩
theorem refTickT (k : Ck) (hg : CkGood k) (A : Option Addr) (c : Nat) (I : Option Addr) (d : Nat) (B : Option Addr) (e : Nat) (ps : List Bp) (w : World) (hk : CkAt w k A I B ps) (k2 : Ck) (b : Bool) (r : Int) (hr : tickRes k = (k2, b, r)) :
    Calls Tryz.prog 13 #[.agg #[.int .i64 k.most, .slice A k.wait.length c, .int .i64 k.batch, .int .i64 k.every, .int .i64 k.now, .slice I k.heads.length d, .slice B ps.length e]] w (RtT k2 b w) := by
  have ht := CkTiny.good hg
  have hsm := ck_small hg ps hk.bq
  have hrg := hg.range
  unfold rangeBad at hrg
  unfold tickRes at hr
  rw [if_pos ((ckfault_ok k).2 hg)] at hr
  simp only [Prod.mk.injEq] at hr
  obtain ⟨hr1, hr2, -⟩ := hr
  have hqq := hk.q
  have hhd := hk.hd
  have hbb := hk.bk
  have hbq := hk.bq
  clear hk
  have hq30 := hsm.q
  have hh40 := hsm.h
  have hb40 := hsm.b
  have hbe : ∀ p ∈ ps, p.2.2.length ≤ 1000 := fun p hp => by have := (hsm.e p hp).1; omega
  obtain ⟨most, l, ba, ev, nw, hs, bs⟩ := k
  dsimp only at *
  subst hbq
  obtain ⟨N, rfl⟩ : ∃ N : Nat, nw = (N : Int) := ⟨nw.toNat, by omega⟩
  obtain ⟨v0, rfl⟩ : ∃ v0 : Nat, ev = (v0 : Int) := ⟨ev.toNat, by omega⟩
  unfold ckTick at hr1 hr2
  dsimp only at hr1 hr2
  cases hc : (decide (hs.length = 40) || decide ((N : Int) = 1000000000)) with
  | true =>
    rw [if_pos hc] at hr1 hr2
    subst hr1
    subst hr2
    refine (refClerkTick_closed most ba v0 N l hs ps A I B c d e w hq30 hh40 (by omega) hbe hqq hhd hbb hc).mono ?_
    rintro xx w' ⟨D, d2, E, f, F, h, qs, rfl, hq, h1, h2, h3, hb⟩
    exact ⟨D, d2, E, f, F, h, qs, rfl, ⟨hq, h1, h2, h3⟩, hb⟩
  | false =>
    rw [if_neg (by rw [hc]; decide)] at hr1 hr2
    by_cases hd : ((N : Int) + 1) % (v0 : Int) = 0
    · rw [if_pos hd] at hr1 hr2
      subst hr1
      subst hr2
      refine (refClerkTick_due most ba (v0 : Int) (N : Int) l hs ps A I B c d e w hqq hhd hbb hg hc hd).mono ?_
      rintro xx w' ⟨D, d2, E, f, F, h, qs, rfl, hq, h1, h2, h3, hb⟩
      exact ⟨D, d2, E, f, F, h, qs, rfl, ⟨hq, h1, h2, h3⟩, hb⟩
    · rw [if_neg hd] at hr1 hr2
      subst hr1
      subst hr2
      refine (refClerkTick_none most ba v0 N l hs ps A I B c d e w hq30 hh40 (by omega) hbe hqq hhd hbb (by omega) (by omega) (by omega) hc (fun h => hd (by rw [show (N : Int) + 1 = ((N + 1 : Nat) : Int) by omega, ← Int.natCast_emod, h]; rfl))).mono ?_
      rintro xx w' ⟨D, d2, E, f, F, h, qs, rfl, hq, h1, h2, h3, hb⟩
      exact ⟨D, d2, E, f, F, h, qs, rfl, ⟨hq, h1, h2, h3⟩, hb⟩
theorem sameT (k : Ck) (ht : CkTiny k) (A : Option Addr) (c : Nat) (I : Option Addr) (d : Nat) (B : Option Addr) (e : Nat) (ps : List Bp) (A' : Option Addr) (c' : Nat) (I' : Option Addr) (d' : Nat) (B' : Option Addr) (e' : Nat) (ps' : List Bp) (w : World) (hk : CkAt w k A I B ps) (hk' : CkAt w k A' I' B' ps') :
    Calls Tryz.prog 8 #[.agg #[.int .i64 k.most, .slice A k.wait.length c, .int .i64 k.batch, .int .i64 k.every, .int .i64 k.now, .slice I k.heads.length d, .slice B ps.length e], .agg #[.int .i64 k.most, .slice A' k.wait.length c', .int .i64 k.batch, .int .i64 k.every, .int .i64 k.now, .slice I' k.heads.length d', .slice B' ps'.length e']] w fun x w' => x = .returned (.bool true) ∧ Below w.heap.size w w' :=
  refSameClerk k.most k.batch k.every k.now k.wait k.heads ps ps' A A' I I' B B' c c' d d' e e' w ht.q ht.h (by rw [← bks_length, hk.bq]; exact ht.b) (fun p hp => ht.e _ (by rw [← hk.bq]; exact List.mem_map_of_mem hp)) (by rw [hk.bq, hk'.bq]) hk.q hk'.q hk.hd hk'.hd hk.bk hk'.bk
theorem newRes_tiny {most ba ev r : Int} {k : Ck} (h : newRes most ba ev = (k, r)) : CkTiny k := by
  unfold newRes at h
  split at h
  · rw [Prod.mk.injEq] at h; rw [← h.1]; exact CkTiny.none
  · rw [Prod.mk.injEq] at h; rw [← h.1]; exact ⟨by simp, by simp, by simp, fun b hb => by simp at hb; rw [hb]; simp⟩
theorem askRes_tiny {k k2 : Ck} {a : Ak} {due r : Int} (h : askRes k a = (k2, due, r)) : CkTiny k2 := by
  unfold askRes at h
  split at h
  · rename_i h0
    split at h
    · rename_i h1
      simp only [Prod.mk.injEq] at h
      rw [← h.1]
      exact CkTiny.good (ckAsked_good ((ckfault_ok k).1 h0) h1)
    · simp only [Prod.mk.injEq] at h; rw [← h.1]; exact CkTiny.none
  · simp only [Prod.mk.injEq] at h; rw [← h.1]; exact CkTiny.none
theorem tickRes_tiny {k k2 : Ck} {b : Bool} {r : Int} (h : tickRes k = (k2, b, r)) : CkTiny k2 := by
  unfold tickRes at h
  split at h
  · rename_i h0
    simp only [Prod.mk.injEq] at h
    rw [← h.1]
    exact CkTiny.good (ckTick_good ((ckfault_ok k).1 h0))
  · simp only [Prod.mk.injEq] at h; rw [← h.1]; exact CkTiny.none
end Go.Proofs.YtjcockcilkiggaaGreat
/- A list of requests, and a queue, among a law's arguments, in a row of cells. -/
namespace Go.Proofs.YtjcockcilkiggaaGreat
set_option maxRecDepth 100000
open Go.ChangeShapes Go.WideShapes Go.ChangeAt Go.RowKit Go.Joins

section
variable {H : Type} {enc : TypeId × Value → H} {W : World} {base : Nat} {v : Value} {d : DataW H} {ps : List MemPlace}

theorem arg_asks_of (hv : ∃ a len cap, v = .slice a len cap) (h : DataW.Trod enc Tryz.prog W 0 (fun _ => true) true 22 v d ps) :
    ∃ (A : Option Addr) (c : Nat) (l : List Ak), v = .slice A l.length c ∧ l.length ≤ maxLen ∧ Row W A (qcells l) ∧ l.length ≤ c ∧ c ≤ maxLen ∧ (∀ x ∈ l, (x.1.length ≤ maxLen ∧ x.2.1.length ≤ maxLen) ∧ x.2.2.1 < 18446744073709551616 ∧ x.2.2.2 < 18446744073709551616) ∧
      (d = .nil ∧ l = [] ∨ ∃ el sp : List (DataW H), d = .slice el sp ∧ el.length = l.length) := by
  obtain ⟨a0, len, cap, rfl⟩ := hv
  obtain ⟨fuel, hf⟩ := h
  have hc : Tryz.prog.cellsOf 31 = 4 := by kernel_rfl
  have hc1 : Tryz.prog.cellsOf 9 = 1 := by kernel_rfl
  have hc2 : Tryz.prog.cellsOf 29 = 1 := by kernel_rfl
  rcases Go.Deep.open_slice Tryz.underlying22 hf with ⟨hcs, hx⟩ | ⟨a, len', cap', m, n, D, Pl, hcs, _, hl, hm, hmm, hx, hcell⟩
  · have e : (Value.slice a0 len cap) = .slice none 0 0 := by simpa [Value.cells] using hcs
    injection e with e1 e2 e3
    subst e1; subst e2; subst e3
    injection hx with hx
    exact ⟨none, 0, [], rfl, by simp, Row.nil_ _ _, by simp, by unfold maxLen; omega, fun s hs => (by simp at hs), .inl ⟨hx, rfl⟩⟩
  · have e : (Value.slice a0 len cap) = .slice (some a) len' cap' := by simpa [Value.cells] using hcs
    injection e with e1 e2 e3
    subst e1; subst e2; subst e3
    simp only [if_true] at hmm
    have each : ∀ i, i < len → ∃ x : Ak, (W.cell? (a.add (i * 4)) = some (.string (S x.1)) ∧ W.cell? (a.add (i * 4 + 1)) = some (.string (S x.2.1)) ∧ W.cell? (a.add (i * 4 + 2)) = some (.int .u64 (x.2.2.1 : Int)) ∧ W.cell? (a.add (i * 4 + 3)) = some (.int .u64 (x.2.2.2 : Int))) ∧
        (x.1.length ≤ maxLen ∧ x.2.1.length ≤ maxLen) ∧ x.2.2.1 < 18446744073709551616 ∧ x.2.2.2 < 18446744073709551616 := by
      intro i hi
      obtain ⟨cs, g1, g2⟩ := hcell i (by omega)
      rw [hc] at g1
      obtain ⟨_, hlen, hcc⟩ := World.cells?_some g1
      obtain ⟨y0, y1, y2, y3, k, _, _, h0, h1, h2, h3⟩ := trod_struct4 Tryz.underlying31 g2
      match cs, hlen with
      | [c0, c1, c2, c3], _ =>
        simp [hc1, hc2] at h0 h1 h2 h3
        obtain ⟨x1, e1, _, l1⟩ := DataW.trod_string Tryz.underlying9 h0
        obtain ⟨x2, e2, _, l2⟩ := DataW.trod_string Tryz.underlying9 h1
        obtain ⟨x3, e3, _, l3⟩ := DataW.trod_int Tryz.underlying29 h2
        obtain ⟨x4, e4, _, l4⟩ := DataW.trod_int Tryz.underlying29 h3
        simp only [List.cons.injEq, and_true] at e1 e2 e3 e4
        subst e1; subst e2; subst e3; subst e4
        have b3 := bounds_u64 l3
        have b4 := bounds_u64 l4
        have z0 := hcc 0 (by omega)
        have z1 := hcc 1 (by omega)
        have z2 := hcc 2 (by omega)
        have z3 := hcc 3 (by omega)
        rw [Go.Deep.add_add] at z0 z1 z2 z3
        refine ⟨(x1.data.toList, x2.data.toList, x3.toNat, x4.toNat), ⟨?_, ?_, ?_, ?_⟩, ⟨by dsimp only; rw [Array.length_toList]; exact l1, by dsimp only; rw [Array.length_toList]; exact l2⟩, by dsimp only; omega, by dsimp only; omega⟩
        · dsimp only; rw [← S_of]; simpa using z0
        · dsimp only; rw [← S_of]; simpa using z1
        · dsimp only; rw [Int.toNat_of_nonneg b3.1]; simpa using z2
        · dsimp only; rw [Int.toNat_of_nonneg b4.1]; simpa using z3
    obtain ⟨q, hq⟩ := Go.Deep.choose_lt each
    have hlen : ((List.range len).map q).length = len := by simp
    refine ⟨some a, cap, (List.range len).map q, by rw [hlen], by rw [hlen]; omega, fun h0 => ?_, by rw [hlen]; exact hl, hm, ?_, ?_⟩
    · rw [qcells_length, hlen] at h0
      obtain ⟨b, off, spot⟩ := a
      have hspot : spot = none := by simpa [Addr.add] using World.cell?_spot (hq 0 (by omega)).1.1
      subst hspot
      refine ⟨b, off, rfl, fun k hk => ?_⟩
      rw [qcells_length, hlen] at hk
      have hi : k / 4 < len := by omega
      have hg := qcells_get ((List.range len).map q) (k / 4) (by rw [hlen]; exact hi)
      obtain ⟨⟨h1, h2, h3, h4⟩, _⟩ := hq (k / 4) hi
      rw [Go.WideShapes.add_plain] at h1 h2 h3 h4
      simp only [List.getElem_map, List.getElem_range] at hg
      rcases (by omega : k = k / 4 * 4 ∨ k = k / 4 * 4 + 1 ∨ k = k / 4 * 4 + 2 ∨ k = k / 4 * 4 + 3) with hk2 | hk2 | hk2 | hk2
      · obtain ⟨l1, e1⟩ := List.getElem?_eq_some_iff.1 hg.1
        have e3 : (qcells ((List.range len).map q))[k] = .string (S (q (k / 4)).1) := by rw [← e1]; congr 1
        rw [e3, ← h1]
        congr 2
        omega
      · obtain ⟨l1, e1⟩ := List.getElem?_eq_some_iff.1 hg.2.1
        have e3 : (qcells ((List.range len).map q))[k] = .string (S (q (k / 4)).2.1) := by rw [← e1]; congr 1
        rw [e3, ← h2]
        congr 2
        omega
      · obtain ⟨l1, e1⟩ := List.getElem?_eq_some_iff.1 hg.2.2.1
        have e3 : (qcells ((List.range len).map q))[k] = .int .u64 ((q (k / 4)).2.2.1 : Int) := by rw [← e1]; congr 1
        rw [e3, ← h3]
        congr 2
        omega
      · obtain ⟨l1, e1⟩ := List.getElem?_eq_some_iff.1 hg.2.2.2
        have e3 : (qcells ((List.range len).map q))[k] = .int .u64 ((q (k / 4)).2.2.2 : Int) := by rw [← e1]; congr 1
        rw [e3, ← h4]
        congr 2
        omega
    · intro x hx
      obtain ⟨i, hi, rfl⟩ := List.mem_map.1 hx
      exact (hq i (List.mem_range.1 hi)).2
    · injection hx with hx
      exact .inr ⟨_, _, hx, by simp⟩
theorem arg_asks (hok : Value.okWide Tryz.prog W .any base 22 v) (h : DataW.Trod enc Tryz.prog W 0 (fun _ => true) true 22 v d ps) :
    ∃ (A : Option Addr) (c : Nat) (l : List Ak), v = .slice A l.length c ∧ l.length ≤ maxLen ∧ Row W A (qcells l) ∧ l.length ≤ c ∧ c ≤ maxLen ∧ (∀ x ∈ l, (x.1.length ≤ maxLen ∧ x.2.1.length ≤ maxLen) ∧ x.2.2.1 < 18446744073709551616 ∧ x.2.2.2 < 18446744073709551616) ∧
      (d = .nil ∧ l = [] ∨ ∃ el sp : List (DataW H), d = .slice el sp ∧ el.length = l.length) :=
  arg_asks_of (okWide_slice Tryz.underlying22 hok) h
/-- A queue among the arguments. -/
theorem arg_queue (hok : Value.okWide Tryz.prog W .any base 24 v) (h : DataW.Trod enc Tryz.prog W 0 (fun _ => true) true 24 v d ps) :
    ∃ (m : Int) (A : Option Addr) (c : Nat) (l : List Ak), v = .agg #[.int .i64 m, .slice A l.length c] ∧ (-9223372036854775808 ≤ m ∧ m ≤ 9223372036854775807) ∧ l.length ≤ maxLen ∧ Row W A (qcells l) ∧ l.length ≤ c ∧ c ≤ maxLen ∧ (∀ x ∈ l, (x.1.length ≤ maxLen ∧ x.2.1.length ≤ maxLen) ∧ x.2.2.1 < 18446744073709551616 ∧ x.2.2.2 < 18446744073709551616) := by
  obtain ⟨cs, rfl, hcs⟩ := okWide_struct Tryz.underlying24 hok
  have hc : Tryz.prog.cellsOf 24 = 2 := by kernel_rfl
  have hc1 : Tryz.prog.cellsOf 3 = 1 := by kernel_rfl
  have hc2 : Tryz.prog.cellsOf 22 = 1 := by kernel_rfl
  obtain ⟨fuel, hf⟩ := h
  obtain ⟨y0, y1, k, _, _, h0, h1⟩ := trod_struct2 Tryz.underlying24 hf
  rw [hc] at hcs
  obtain ⟨l⟩ := cs
  match l, hcs with
  | [c0, c1], _ =>
    simp [Value.cells, hc1, hc2] at h0 h1
    obtain ⟨x, e1, _, l1⟩ := DataW.trod_int Tryz.underlying3 h0
    simp only [List.cons.injEq, and_true] at e1
    subst e1
    have b := bounds_i64 l1
    have v1 : ∃ a len cap, c1 = .slice a len cap := by
      rcases Go.Deep.open_slice Tryz.underlying22 h1 with ⟨e, _⟩ | ⟨a, len, cap, _, _, _, _, e, _⟩
      · exact ⟨none, 0, 0, by simpa using e⟩
      · exact ⟨some a, len, cap, by simpa using e⟩
    obtain ⟨A, c, l, rfl, q1, q2, q3, q4, q5, _⟩ := arg_asks_of v1 (⟨k, by obtain ⟨a, b, c, rfl⟩ := v1; simpa [Value.cells] using h1⟩ : DataW.Trod enc Tryz.prog W 0 (fun _ => true) true 22 c1 y1.1 y1.2)
    exact ⟨x, A, c, l, rfl, ⟨by omega, by omega⟩, q1, q2, q3, q4, q5⟩
end
end Go.Proofs.YtjcockcilkiggaaGreat
