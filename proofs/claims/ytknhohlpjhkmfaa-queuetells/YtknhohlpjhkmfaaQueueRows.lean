/- Three rows of requests of the call's own in blocks apart from each other, one of them held by a struct: what appending to one and writing the struct keep. -/
import Derived.Test.YtknhohlpjhkmfaaAskAt
import Derived.Test.YtknhohlpjhkmfaaQueueTake
namespace Go.Proofs.Ytknhohlpjhkmfaa
set_option maxRecDepth 100000
open Go.RowKit

/-- Two slices that share no block. -/
def Apart (u v : Value) : Prop := ∀ k, u.ownBlock = some k → v.ownBlock ≠ some k
theorem Apart.symm {u v : Value} (h : Apart u v) : Apart v u := fun k hk e => h k e hk
theorem Apart.ne {u v : Value} (h : Apart u v) : v.ownBlock = none ∨ v.ownBlock ≠ u.ownBlock := by
  cases hv : v.ownBlock with
  | none => exact .inl rfl
  | some k => exact .inr fun e => h k e.symm hv
theorem Apart.fresh {w : World} {base B size n m e e' size'} {u v : Value} {xs ys : List Value} (hu : w.ownsRow base e size u n xs) {w' : World} (hv : w'.ownsRow B e' size' v m ys) (hB : w.heap.size ≤ B) : Apart u v := fun k hk e => by
  have h1 := (hu.lt k hk).2
  have h2 := (hv.lt k e).1
  omega
/-- .. behind an append to the first one. -/
theorem Apart.app {w : World} {u u' v : Value} (h : Apart u v) (hat : u'.ownBlock = u.ownBlock ∨ u'.ownBlock = some w.heap.size) (hv : ∀ k, v.ownBlock = some k → k < w.heap.size) : Apart u' v := fun k hk e => by
  rcases hat with h1 | h1
  · exact h k (by rw [← h1]; exact hk) e
  · rw [h1] at hk
    injection hk with hk
    have := hv k e
    omega

/-- A row of requests of the call's own. -/
abbrev Rq (W : World) (g : Nat) (v : Value) (l : List Ak) : Prop := W.ownsRow (g + 1) 27 4 v l.length (qcells l)
theorem Rq.cap {W : World} {g : Nat} {D : Option Addr} {d : Nat} {l : List Ak} (h : Rq W g (.slice D l.length d) l) : l.length ≤ d ∧ d ≤ maxLen := by
  rcases h.2 with ⟨h0, h1⟩ | ⟨g, cap, cur, hv, _, _, h1, h2, _⟩
  · injection h0 with _ _ e3
    unfold maxLen
    omega
  · injection hv with _ _ e3
    subst e3
    exact ⟨h1, h2⟩
structure Ord (g : Nat) (most : Int) (IN OUT QW : List Ak) (vi vo vq : Value) (W : World) : Prop where
  i : Rq W g vi IN
  o : Rq W g vo OUT
  q : Rq W g vq QW
  b : Bx W g [.int .i64 most, vq]
  io : Apart vi vo
  iq : Apart vi vq
  oq : Apart vo vq
theorem Ord.lt {g : Nat} {most : Int} {IN OUT QW : List Ak} {vi vo vq : Value} {W : World} (h : Ord g most IN OUT QW vi vo vq W) : g < W.heap.size := h.b.lt
theorem Ord.below {g : Nat} {most : Int} {IN OUT QW : List Ak} {vi vo vq : Value} {W W' : World} (h : Ord g most IN OUT QW vi vo vq W) (hb : Below W.heap.size W W') : Ord g most IN OUT QW vi vo vq W' :=
  ⟨own_belowN h.i hb, own_belowN h.o hb, own_belowN h.q hb, h.b.below hb, h.io, h.iq, h.oq⟩
theorem Ord.row {g : Nat} {most : Int} {IN OUT QW : List Ak} {vi vo vq : Value} {W : World} (h : Ord g most IN OUT QW vi vo vq W) : ∃ D d, vq = .slice D QW.length d ∧ Row W D (qcells QW) ∧ QW.length ≤ d := by
  obtain ⟨D, d, e⟩ := own_shape h.q
  have hq := h.q
  subst e
  refine ⟨D, d, rfl, Row.ownN hq, ?_⟩
  rcases hq.2 with ⟨h0, h1⟩ | ⟨g, cap, cur, hv, _, _, h1, _⟩
  · injection h0 with _ _ e3
    omega
  · injection hv with _ _ e3
    omega
/-- A row is kept by a store into the struct. -/
theorem Rq.set {g : Nat} {v : Value} {l : List Ak} {W : World} (h : Rq W g v l) (x y : Value) : Rq ((W.setCell ⟨g, 0, none⟩ x).setCell ⟨g, 1, none⟩ y) g v l := by
  have hne : v.ownBlock = none ∨ v.ownBlock ≠ some g := by
    cases hv : v.ownBlock with
    | none => exact .inl rfl
    | some k =>
      refine .inr fun e => ?_
      have := (h.lt k hv).1
      injection e with e
      omega
  exact h.kept ((grown_setQ W ⟨g, 0, none⟩ x).trans (grown_setQ _ ⟨g, 1, none⟩ y)) hne
/-- An append to the first row, with a row beside that is none of the three. -/
theorem Ord.appI {g : Nat} {most : Int} {IN OUT QW IN' : List Ak} {vi vo vq vi' : Value} {W W' : World} (h : Ord g most IN OUT QW vi vo vq W) (hown : Rq W' g vi' IN') (hg : W.grownBy W' vi.ownBlock)
    (hat : vi'.ownBlock = vi.ownBlock ∨ vi'.ownBlock = some W.heap.size) : Ord g most IN' OUT QW vi' vo vq W' :=
  ⟨hown, h.o.kept hg h.io.ne, h.q.kept hg h.iq.ne, h.b.kept hg (fun e => by have := (h.i.lt _ e.symm).1; omega), h.io.app hat (fun k hk => (h.o.lt k hk).2), h.iq.app hat (fun k hk => (h.q.lt k hk).2), h.oq⟩
theorem Ord.appO {g : Nat} {most : Int} {IN OUT QW OUT' : List Ak} {vi vo vq vo' : Value} {W W' : World} (h : Ord g most IN OUT QW vi vo vq W) (hown : Rq W' g vo' OUT') (hg : W.grownBy W' vo.ownBlock)
    (hat : vo'.ownBlock = vo.ownBlock ∨ vo'.ownBlock = some W.heap.size) : Ord g most IN OUT' QW vi vo' vq W' :=
  ⟨h.i.kept hg h.io.symm.ne, hown, h.q.kept hg h.oq.ne, h.b.kept hg (fun e => by have := (h.o.lt _ e.symm).1; omega), (h.io.symm.app hat (fun k hk => (h.i.lt k hk).2)).symm, h.iq, h.oq.app hat (fun k hk => (h.q.lt k hk).2)⟩
/-- The struct is written anew. -/
theorem Ord.put {g : Nat} {most : Int} {IN OUT QW QW' : List Ak} {vi vo vq vq' : Value} {W : World} (h : Ord g most IN OUT QW vi vo vq W) (hq : Rq W g vq' QW') (hi : Apart vi vq') (ho : Apart vo vq') :
    Ord g most IN OUT QW' vi vo vq' ((W.setCell ⟨g, 0, none⟩ (.int .i64 most)).setCell ⟨g, 1, none⟩ vq') :=
  ⟨Rq.set h.i _ _, Rq.set h.o _ _, Rq.set hq _ _, h.b.set2 _ _, h.io, hi, ho⟩
/-- What Put and Take leave of a queue is a queue. -/
theorem qgood_put {most : Int} {l : List Ak} {a : Ak} (h : QGood most l) (ha : askFault a.1 a.2.1 = 0) (hlt : (l.length : Int) < most) : QGood most (l ++ [a]) := by
  refine ⟨h.m1, h.m30, by rw [List.length_append, List.length_singleton]; omega, fun x hx => ?_⟩
  rcases List.mem_append.1 hx with hx | hx
  · exact h.each x hx
  · rw [List.mem_singleton.1 hx]; exact ha
theorem qgood_drop {most : Int} {l : List Ak} (j : Nat) (h : QGood most l) : QGood most (l.drop j) :=
  ⟨h.m1, h.m30, by have := h.len; rw [List.length_drop]; omega, fun x hx => h.each x (List.mem_of_mem_drop hx)⟩
theorem qfits_of {most : Int} {l : List Ak} (h : QGood most l) : ∀ x ∈ l, AkFits x := fun x hx => by
  have := (askFault_ok _ _).1 (h.each x hx)
  have hn := Bin.name_len this.1
  exact ⟨by unfold maxLen; omega, by unfold maxLen; omega⟩
theorem putErr_ok {most : Int} {l : List Ak} {a : Ak} (h : putErr most l a = 0) : QGood most l ∧ askFault a.1 a.2.1 = 0 ∧ (l.length : Int) < most := by
  unfold putErr at h
  split at h
  · rename_i h0
    have hg := (qfault_ok _ _).1 h0
    split at h
    · rename_i h1
      split at h
      · exact absurd h (by decide)
      · rename_i h2
        have := hg.len
        exact ⟨hg, h1, by omega⟩
    · rename_i h1
      exact absurd h h1
  · rename_i h0
    exact absurd h h0
theorem takeErr_ok {most : Int} {l : List Ak} {n : Int} (h : takeErr most l n = 0) : QGood most l ∧ 0 ≤ n := by
  unfold takeErr at h
  split at h
  · rename_i h0
    split at h
    · exact absurd h (by decide)
    · exact ⟨(qfault_ok _ _).1 h0, by omega⟩
  · rename_i h0
    exact absurd h h0
end Go.Proofs.Ytknhohlpjhkmfaa
