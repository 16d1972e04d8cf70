/- slices.Backward at heads: the iterator over a list of heads from its end on: what comes, and when all has come. It writes nothing that was there. -/
import Derived.Test.YthkhafgcpmoalaaHeadRow
import Derived.RangeFuncNested
import Derived.RangeFuncBound
import Derived.RangeFuncCalls
import Derived.RangeFuncLeaves
import Derived.Shelf.Abstract
import Derived.Shelf.RegionOpen
import Derived.WalkKit
import Derived.OwnWalkIn
import Derived.TacticsInMore
import Derived.LoopNIn
import Derived.LoopIn
namespace Go.Proofs.Ythkhafgcpmoalaa
set_option maxRecDepth 100000
open Go.RowKit Go.Shelf
attribute [local go_sem] Oper.semAt_some

theorem keeps_below {W W' : World} (h : Below W.heap.size W W') : KeepsOthers W W' := ⟨h.size, fun k _ hk _ => (h.block k (Array.getElem?_eq_some_iff.1 hk).1).trans hk⟩
theorem boxed_below {W W' : World} {B : Nat} {t : TypeId} {v : Value} (h : Boxed W B t v) (hb : Below W.heap.size W W') : Boxed W' B t v := (hb.block B h.lt).trans h

/-- A place in a list, and its head. -/
def encs {n : Nat} (l : List Hd) (hl : l.length = n) (k : Fin n) : Array Value := #[.int .i64 (k.1 : Int), .agg #[.int .i64 (l[k.1]'(by rw [hl]; exact k.2)).1, .int .u64 ((l[k.1]'(by rw [hl]; exact k.2)).2.1 : Int), .int .u64 ((l[k.1]'(by rw [hl]; exact k.2)).2.2.1 : Int), .int .i64 (l[k.1]'(by rw [hl]; exact k.2)).2.2.2]]

set_option maxHeartbeats 400000 in
theorem backOf (A : Option Addr) (n c : Nat) (w : World) :
    Calls Try.prog 37 #[.slice A n c] w fun e w' => e = .returned (.func (.func 47) #[] #[.pointer (some ⟨w.heap.size, 0, none⟩)]) ∧ w' = w.alloc (.cells #[.slice A n c] 22) := by
  go_enter Try.func37, Try.ntmps37
  go_wp2
  go_ret
  exact ⟨rfl, rfl⟩

set_option maxHeartbeats 2000000 in
theorem back1 (m : Nat) (hm1 : 1 ≤ m) (l Bs n₀ : Nat) (A : Option Addr) (n c : Nat) (hs : List Hd) (hl : hs.length = n) (hn : n ≤ 1000) (hBn : Bs < n₀) (J Jx : List (Fin n) → World → Prop)
    (hY : ∀ pre x W, J pre W → pre.length < n → YieldAt Fence.wide (m - 1) Try.prog l (encs hs hl x) W fun e W' =>
      (e = .returned (.bool true) ∧ J (pre ++ [x]) W' ∧ Below n₀ W W') ∨ (e = .returned (.bool false) ∧ Jx (pre ++ [x]) W'))
    (W : World) (hBs : W.cell? ⟨Bs, 0, none⟩ = some (.slice A n c)) (hlow : ∀ g off s, A = some ⟨g, off, s⟩ → g < n₀) (hA : Row W A (hcells hs)) (h0 : J [] W) :
    CallsIn Fence.wide m Try.prog 47 #[.func (.yield l) #[] #[], .pointer (some ⟨Bs, 0, none⟩)] W fun e W' => (∃ v, e = .returned v) ∧
      ((∃ ys, (∀ k : Fin n, k ∈ ys) ∧ J ys W') ∨ (∃ pre, (∃ ini last, pre = ini ++ [last] ∧ ∀ k : Fin n, last.1 < k.1 → k ∈ ini) ∧ Jx pre W')) := by
  refine callsIn_of_wp Try.func47 rfl trivial ?_ rfl
  simp only [Try.ntmps47, List.size_toArray, List.length_cons, List.length_nil, Nat.reduceAdd, Nat.reduceSub, Array.replicate_succ, Array.replicate_zero, List.push_toArray, List.append_toArray, List.nil_append, List.cons_append]
  have i0 : IntKind.i64.wrap ((n : Int) - 1) = (n : Int) - 1 := by rw [IntKind.wrap_i64]; omega
  gi_wp2
  gi_loopw [3] (fun i wr => ∃ (k : Nat) (pre : List (Fin n)), k ≤ n ∧ i = .int .i64 ((k : Int) - 1) ∧ pre.length + k = n ∧ (∀ j : Fin n, k ≤ j.1 → j ∈ pre) ∧ J pre wr ∧ Below n₀ W wr)
    (fun i _ => (intOf i + 1).toNat)
  case atStart => exact ⟨n, [], Nat.le_refl _, rfl, by simp, fun j hj => absurd j.2 (by omega), h0, Below.refl _ _⟩
  case round =>
    obtain ⟨k, pre, hk, rfl, hp, hall, hJs, hnx⟩ := hrel
    have hcs := (hnx.cell (p := ⟨Bs, 0, none⟩) hBn).trans hBs
    cases k with
    | zero =>
      have c0 : decide ((0 : Int) ≤ ((0 : Nat) : Int) - 1) = false := by decide
      gi_wp2
      go_end0
      exact ⟨⟨_, rfl⟩, .inl ⟨pre, fun j => hall j (Nat.zero_le _), hJs⟩⟩
    | succ k =>
      have e1 : (((k + 1 : Nat) : Int) - 1) = (k : Int) := by omega
      rw [e1]
      have hkn : k < n := by omega
      have hkl : k < hs.length := by omega
      have hA' : Row wr A (hcells hs) := by
        intro h1
        obtain ⟨g, off, e, hc⟩ := hA h1
        exact ⟨g, off, e, fun j hj => (hnx.cell (p := ⟨g, off + j, none⟩) (hlow g off none e)).trans (hc j hj)⟩
      obtain ⟨g, off, rfl, h1, h2, h3, h4⟩ := hA'.head k hkl
      obtain ⟨fn, tmps, assign, body, hy, hR⟩ := hY pre ⟨k, hkn⟩ wr hJs (by omega)
      dsimp only [encs] at hy
      have hi0 : (0 : Int) ≤ (k : Int) := by omega
      have hi1 : (k : Int) < (n : Int) := by omega
      have hi2 : IntKind.i64.wrap ((k : Int) - 1) = (k : Int) - 1 := by rw [IntKind.wrap_i64]; omega
      have hmem : ∀ j : Fin n, k ≤ j.1 → j ∈ pre ++ [⟨k, hkn⟩] := fun j hj => by
        by_cases e : j.1 = k
        · exact List.mem_append.2 (.inr (by simp [Fin.ext_iff, e]))
        · exact List.mem_append.2 (.inl (hall j (by omega)))
      generalize hs[k].1 = a1 at *
      generalize hs[k].2.1 = a2 at *
      generalize hs[k].2.2.1 = a3 at *
      generalize hs[k].2.2.2 = a4 at *
      clear hA hA' hY
      gi_wp2
      refine hR.mono ?_
      rintro e W3 (⟨rfl, hJ3, hk3⟩ | ⟨rfl, hJx3⟩)
      · gi_wp2
        go_roundw
        case rel => exact ⟨k, pre ++ [⟨k, hkn⟩], by omega, by go_num, by simp; omega, hmem, hJ3, hnx.trans hk3⟩
        case measure => simp [intOf]
      · gi_wp2
        refine bodyPost_ret (results_none rfl _ _ _) rfl ?_
        exact ⟨⟨_, rfl⟩, .inr ⟨_, ⟨pre, ⟨k, hkn⟩, rfl, fun j hj => hall j hj⟩, hJx3⟩⟩

/-- The iterator over whatever list of heads lies in memory, as a loop takes it. -/
theorem back_stops (m : Nat) (hm1 : 1 ≤ m) (Bs : Nat) (A : Option Addr) (n c : Nat) (hs : List Hd) (hl : hs.length = n) (hn0 : 0 < n) (hn : n ≤ 1000) (w : World) (hBs : w.cell? ⟨Bs, 0, none⟩ = some (.slice A n c)) (hA : Row w A (hcells hs)) :
    SeqStopsK Fence.wide m Try.prog 47 #[.pointer (some ⟨Bs, 0, none⟩)] (encs hs hl) (Below w.heap.size) (fun ys => ∀ k : Fin n, k ∈ ys) (fun pre => ∃ ini last, pre = ini ++ [last] ∧ ∀ k : Fin n, last.1 < k.1 → k ∈ ini) n w := fun l J Jx W hW _ _ hY h0 => by
  have hB := World.block_lt_of_cell? _ _ hBs
  refine back1 m hm1 l Bs w.heap.size A n c hs hl hn hB J Jx hY W ((hW.cell (p := ⟨Bs, 0, none⟩) hB).trans hBs) (fun g off s e => ?_) (hA.below hW) h0
  obtain ⟨g', off', e', hc⟩ := hA (by rw [hcells_length]; omega)
  rw [e] at e'
  injection e' with e'
  injection e' with e1 e2 e3
  subst e1
  exact Row.lt hc (k := 0) (by rw [hcells_length]; omega)
end Go.Proofs.Ythkhafgcpmoalaa
