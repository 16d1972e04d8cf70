/- Rows of the call's own of which only is said what stands at one cell of each element: any store of such a value keeps them. -/
import Derived.Test.YtjcockcilkiggaaJ35
import Derived.Test.YtjcockcilkiggaaJ24
namespace Go.Proofs.Ytjcockcilkiggaa
set_option maxRecDepth 100000
open Go.RowKit

def ORow (W : World) (b : Nat) (e : TypeId) (s o n : Nat) (v : Value) (P : Value → Prop) : Prop := ∃ xs, W.ownsRow b e s v n xs ∧ ∀ i, i < n → ∃ u, xs[i * s + o]? = some u ∧ P u
theorem ORow.below {W W' : World} {b : Nat} {e : TypeId} {s o n : Nat} {v : Value} {P : Value → Prop} (h : ORow W b e s o n v P) (hb : Below W.heap.size W W') : ORow W' b e s o n v P := by
  obtain ⟨xs, h1, h2⟩ := h
  exact ⟨xs, own_belowN h1 hb, h2⟩
theorem ORow.weak {W : World} {b : Nat} {e : TypeId} {s o n : Nat} {v : Value} {P Q : Value → Prop} (h : ORow W b e s o n v P) (hq : ∀ u, P u → Q u) : ORow W b e s o n v Q := by
  obtain ⟨xs, h1, h2⟩ := h
  exact ⟨xs, h1, fun i hi => by obtain ⟨u, h3, h4⟩ := h2 i hi; exact ⟨u, h3, hq u h4⟩⟩
theorem ORow.mono {W : World} {b b' : Nat} {e : TypeId} {s o n : Nat} {v : Value} {P : Value → Prop} (h : ORow W b e s o n v P) (hb : b' ≤ b) : ORow W b' e s o n v P := by
  obtain ⟨xs, h1, h2⟩ := h
  exact ⟨xs, own_baseQ h1 hb, h2⟩
theorem ORow.far {W : World} {b : Nat} {e : TypeId} {s o n : Nat} {v : Value} {P : Value → Prop} (h : ORow W b e s o n v P) {g : Nat} (hne : ∀ k, v.ownBlock = some k → k ≠ g) (j : Nat) (u : Value) : ORow (W.setCell ⟨g, j, none⟩ u) b e s o n v P := by
  obtain ⟨xs, h1, h2⟩ := h
  exact ⟨xs, own_far h1 hne j u, h2⟩
theorem ORow.set {W : World} {b : Nat} {e : TypeId} {s o n : Nat} {v : Value} {P : Value → Prop} (h : ORow W b e s o n v P) (g j : Nat) {u : Value} (hu : P u) : ORow (W.setCell ⟨g, j, none⟩ u) b e s o n v P := by
  obtain ⟨xs, h1, h2⟩ := h
  by_cases hg : v.ownBlock = some g
  · rcases h1.2 with ⟨rfl, _⟩ | ⟨g', cap, cur, rfl, _⟩
    · simp [Value.ownBlock] at hg
    · obtain rfl : g' = g := by simpa [Value.ownBlock] using hg
      refine ⟨xs.set j u, (h1.stored j u).1, fun i hi => ?_⟩
      obtain ⟨x, h3, h4⟩ := h2 i hi
      obtain ⟨hlt, _⟩ := List.getElem?_eq_some_iff.1 h3
      by_cases hj : j = i * s + o
      · subst hj
        exact ⟨u, by rw [List.getElem?_set_self hlt], hu⟩
      · exact ⟨x, by rw [List.getElem?_set_ne hj]; exact h3, h4⟩
  · exact ⟨xs, own_far h1 (fun k hk e => hg (by rw [hk, e])) j u, h2⟩
theorem ORow.get {W : World} {b : Nat} {e : TypeId} {s o n : Nat} {v : Value} {P : Value → Prop} (h : ORow W b e s o n v P) {i : Nat} (hi : i < n) :
    ∃ g c u, v = .slice (some ⟨g, 0, none⟩) n c ∧ W.cell? ⟨g, i * s + o, none⟩ = some u ∧ P u ∧ W.frozen? ⟨g, i * s + o, none⟩ = false ∧ b ≤ g ∧ ∃ xs, W.ownsRow b e s (.slice (some ⟨g, 0, none⟩) n c) n xs := by
  obtain ⟨xs, h1, h2⟩ := h
  obtain ⟨u, h3, h4⟩ := h2 i hi
  rcases h1.2 with ⟨_, h0⟩ | ⟨g, cap, cur, rfl, _⟩
  · omega
  · obtain ⟨hlt, hx⟩ := List.getElem?_eq_some_iff.1 h3
    obtain ⟨g', off, e1, hc⟩ := Row.ownN h1 (by omega)
    injection e1 with e1
    injection e1 with e1 e2 _
    subst e1
    subst e2
    refine ⟨g, cap, u, rfl, ?_, h4, h1.frozenAt _, (h1.lt g rfl).1, xs, h1⟩
    have := hc (i * s + o) hlt
    rw [Nat.zero_add] at this
    rw [this, hx]
def isI (u : Value) : Prop := ∃ t, u = .int .i64 t
def isU (u : Value) : Prop := ∃ t, u = .int .u64 t
def isS (L : Nat) (u : Value) : Prop := ∃ s : Bytes, u = .string (S s) ∧ s.length ≤ L
/-- The rows of a clerk of the call's own. -/
structure OwnZ (W : World) (b L : Nat) (vD : Value) (nl : Nat) (vE : Value) (nh : Nat) (vF : Value) (qs : List Bp) : Prop where
  q : ORow W b 35 4 2 nl vD isU
  h : ORow W b 42 4 3 nh vE isI
  bk : W.ownsRow b 43 1 vF qs.length (bkcells qs)
  e : ∀ p ∈ qs, ORow W b 48 2 1 p.2.2.length (.slice p.1 p.2.2.length p.2.1) (isS L)
theorem OwnZ.below {W W' : World} {b L : Nat} {vD vE vF : Value} {nl nh : Nat} {qs : List Bp} (h : OwnZ W b L vD nl vE nh vF qs) (hb : Below W.heap.size W W') : OwnZ W' b L vD nl vE nh vF qs :=
  ⟨h.q.below hb, h.h.below hb, own_belowN h.bk hb, fun p hp => (h.e p hp).below hb⟩
theorem OwnZ.mono {W : World} {b b' L : Nat} {vD vE vF : Value} {nl nh : Nat} {qs : List Bp} (h : OwnZ W b L vD nl vE nh vF qs) (hb : b' ≤ b) : OwnZ W b' L vD nl vE nh vF qs :=
  ⟨h.q.mono hb, h.h.mono hb, own_baseQ h.bk hb, fun p hp => (h.e p hp).mono hb⟩
theorem isS_weak {L L' : Nat} (h : L ≤ L') : ∀ u, isS L u → isS L' u := fun _ ⟨s, h1, h2⟩ => ⟨s, h1, Nat.le_trans h2 h⟩
theorem OwnZ.weak {W : World} {b L L' : Nat} {vD vE vF : Value} {nl nh : Nat} {qs : List Bp} (h : OwnZ W b L vD nl vE nh vF qs) (hL : L ≤ L') : OwnZ W b L' vD nl vE nh vF qs :=
  ⟨h.q, h.h, h.bk, fun p hp => (h.e p hp).weak (isS_weak hL)⟩
/-- A row of another element type than the one at block g lies elsewhere. -/
theorem own_else {W : World} {b b' s s' n n' c' : Nat} {e e' : TypeId} {v : Value} {g : Nat} {xs xs' : List Value} (h : W.ownsRow b e s v n xs) (h' : W.ownsRow b' e' s' (.slice (some ⟨g, 0, none⟩) n' c') n' xs') (hne : e ≠ e') : ∀ k, v.ownBlock = some k → k ≠ g := fun k hk e1 => by
  rcases own_apart h h' hne with h0 | h0
  · rw [h0] at hk; cases hk
  · rw [hk, e1] at h0; exact h0 rfl
theorem ORow.else {W : World} {b b' s s' o n n' c' : Nat} {e e' : TypeId} {v : Value} {g : Nat} {xs' : List Value} {P : Value → Prop} (h : ORow W b e s o n v P) (h' : W.ownsRow b' e' s' (.slice (some ⟨g, 0, none⟩) n' c') n' xs') (hne : e ≠ e') (j : Nat) (u : Value) : ORow (W.setCell ⟨g, j, none⟩ u) b e s o n v P := by
  obtain ⟨xs, h1, h2⟩ := h
  exact ORow.far ⟨xs, h1, h2⟩ (own_else h1 h' hne) j u
theorem OwnZ.setH {W : World} {b b' s' n' c' L : Nat} {vD vE vF : Value} {nl nh g : Nat} {qs : List Bp} {xs' : List Value} (h : OwnZ W b L vD nl vE nh vF qs) (h' : W.ownsRow b' 42 s' (.slice (some ⟨g, 0, none⟩) n' c') n' xs') (j : Nat) {u : Value} (hu : isI u) : OwnZ (W.setCell ⟨g, j, none⟩ u) b L vD nl vE nh vF qs :=
  ⟨h.q.else h' (by decide) j u, h.h.set g j hu, own_far h.bk (own_else h.bk h' (by decide)) j u, fun p hp => (h.e p hp).else h' (by decide) j u⟩
theorem OwnZ.setQ {W : World} {b b' s' n' c' L : Nat} {vD vE vF : Value} {nl nh g : Nat} {qs : List Bp} {xs' : List Value} (h : OwnZ W b L vD nl vE nh vF qs) (h' : W.ownsRow b' 35 s' (.slice (some ⟨g, 0, none⟩) n' c') n' xs') (j : Nat) {u : Value} (hu : isU u) : OwnZ (W.setCell ⟨g, j, none⟩ u) b L vD nl vE nh vF qs :=
  ⟨h.q.set g j hu, h.h.else h' (by decide) j u, own_far h.bk (own_else h.bk h' (by decide)) j u, fun p hp => (h.e p hp).else h' (by decide) j u⟩
theorem OwnZ.setE {W : World} {b b' s' n' c' L : Nat} {vD vE vF : Value} {nl nh g : Nat} {qs : List Bp} {xs' : List Value} (h : OwnZ W b L vD nl vE nh vF qs) (h' : W.ownsRow b' 48 s' (.slice (some ⟨g, 0, none⟩) n' c') n' xs') (j : Nat) {u : Value} (hu : isS L u) : OwnZ (W.setCell ⟨g, j, none⟩ u) b L vD nl vE nh vF qs :=
  ⟨h.q.else h' (by decide) j u, h.h.else h' (by decide) j u, own_far h.bk (own_else h.bk h' (by decide)) j u, fun p hp => (h.e p hp).set g j hu⟩
/-- A clerk's rows as such rows. -/
theorem ORow.asks {W : World} {b : Nat} {D : Option Addr} {l : List Ak} {d : Nat} (h : W.ownsRow b 35 4 (.slice D l.length d) l.length (qcells l)) : ORow W b 35 4 2 l.length (.slice D l.length d) isU :=
  ⟨qcells l, h, fun i hi => ⟨.int .u64 (l[i].2.2.1 : Int), by
    have e : l = l.take i ++ l[i] :: l.drop (i + 1) := by rw [List.getElem_cons_drop, List.take_append_drop]
    have hl : (qcells (l.take i)).length = i * 4 := by rw [qcells_length, List.length_take]; omega
    generalize l[i] = x at *
    rw [e, qcells_append, List.getElem?_append_right (by omega), hl, Nat.add_sub_cancel_left]
    rfl, _, rfl⟩⟩
theorem ORow.heads {W : World} {b : Nat} {D : Option Addr} {l : List Hd} {d : Nat} (h : W.ownsRow b 42 4 (.slice D l.length d) l.length (hcells l)) : ORow W b 42 4 3 l.length (.slice D l.length d) isI :=
  ⟨hcells l, h, fun i hi => ⟨.int .i64 l[i].2.2.2, by
    have e : l = l.take i ++ l[i] :: l.drop (i + 1) := by rw [List.getElem_cons_drop, List.take_append_drop]
    have hl : (hcells (l.take i)).length = i * 4 := by rw [hcells_length, List.length_take]; omega
    generalize l[i] = x at *
    rw [e, hcells_append, List.getElem?_append_right (by omega), hl, Nat.add_sub_cancel_left]
    rfl, _, rfl⟩⟩
theorem ORow.ents {W : World} {b L : Nat} {D : Option Addr} {l : List Ent} {d : Nat} (h : W.ownsRow b 48 2 (.slice D l.length d) l.length (encells l)) (hL : ∀ x ∈ l, x.2.length ≤ L) : ORow W b 48 2 1 l.length (.slice D l.length d) (isS L) :=
  ⟨encells l, h, fun i hi => ⟨.string (S l[i].2), by
    have e : l = l.take i ++ l[i] :: l.drop (i + 1) := by rw [List.getElem_cons_drop, List.take_append_drop]
    have hl : (encells (l.take i)).length = i * 2 := by rw [encells_length, List.length_take]; omega
    generalize l[i] = x at *
    rw [e, encells_append, List.getElem?_append_right (by omega), hl, Nat.add_sub_cancel_left]
    rfl, _, rfl, hL _ (List.getElem_mem hi)⟩⟩
theorem OwnZ.of {W : World} {b L : Nat} {l : List Ak} {hs : List Hd} {D E F : Option Addr} {d f m : Nat} {qs : List Bp} (h : OwnCk W b l hs D E F d f m qs) (hL : ∀ p ∈ qs, ∀ x ∈ p.2.2, x.2.length ≤ L) : OwnZ W b L (.slice D l.length d) l.length (.slice E hs.length f) hs.length (.slice F qs.length m) qs :=
  ⟨ORow.asks h.q, ORow.heads h.hd, h.bk, fun p hp => ORow.ents (h.each p hp) (hL p hp)⟩
theorem OwnZ.nil (W : World) (b L : Nat) : OwnZ W b L (.slice none 0 0) 0 (.slice none 0 0) 0 (.slice none 0 0) [] :=
  ⟨⟨[], own_nilAny _ _ _ _, fun i hi => by omega⟩, ⟨[], own_nilAny _ _ _ _, fun i hi => by omega⟩, own_nilAny _ _ _ _, fun p hp => by simp at hp⟩
end Go.Proofs.Ytjcockcilkiggaa
