/- A queue of strings: a slice of the call's own whose front is cut off ('q = q[1:]') and that is appended to. -/
import Derived.Test.YtmmmolbejfdamaaApps
import Derived.Deep.AppendSrc
import Derived.Laws.IdiomCopy
namespace Go.Proofs.Ytmmmolbejfdamaa
open Go.RowKit

/-- The strings xs lie in v, in block g, with room behind them. -/
def QRow (w : World) (base g : Nat) (v : Value) (xs : List Bytes) : Prop :=
  ∃ off cap, v = .slice (some ⟨g, off, none⟩) xs.length cap ∧ base ≤ g ∧ g < w.heap.size ∧ xs.length ≤ cap ∧ cap ≤ maxLen ∧ (∀ k (h : k < xs.length), w.cell? ⟨g, off + k, none⟩ = some (.string (S xs[k]))) ∧
    (∀ k, k < cap → (w.cell? ⟨g, off + k, none⟩).isSome = true) ∧ ∀ k, k < cap → w.frozen? ⟨g, off + k, none⟩ = false
theorem QRow.kept {w w' : World} {base g : Nat} {v : Value} {xs : List Bytes} {row : Option Nat} (h : QRow w base g v xs) (hg : w.grownBy w' row) (hne : some g ≠ row) : QRow w' base g v xs := by
  obtain ⟨off, cap, h1, h2, h3, h4, h5, h6, h7, h8⟩ := h
  have hc : ∀ k, w'.cell? ⟨g, off + k, none⟩ = w.cell? ⟨g, off + k, none⟩ := fun k => hg.cell_far ⟨g, off + k, none⟩ h3 hne
  exact ⟨off, cap, h1, h2, Nat.lt_of_lt_of_le h3 hg.size, h4, h5, fun k hk => (hc k).trans (h6 k hk), fun k hk => by rw [hc k]; exact h7 k hk, fun k hk => (hg.frozen_far ⟨g, off + k, none⟩ h3 hne).trans (h8 k hk)⟩
theorem QRow.below {w w' : World} {base g : Nat} {v : Value} {xs : List Bytes} (h : QRow w base g v xs) (hb : Below w.heap.size w w') : QRow w' base g v xs :=
  h.kept (row := none) ⟨hb.os, hb.tape, hb.output, hb.size, fun k hk _ => hb.block k hk⟩ (by simp)
theorem QRow.alloc {w : World} {base g : Nat} {v : Value} {xs : List Bytes} (h : QRow w base g v xs) (o : Obj) : QRow (w.alloc o) base g v xs := h.below ((Below.refl _ _).alloc (Nat.le_refl _) o)
theorem QRow.one (w : World) (base : Nat) (hb : base ≤ w.heap.size) (s : Bytes) : QRow (w.alloc (.cells #[.string (S s)] 9)) base w.heap.size (.slice (some ⟨w.heap.size, 0, none⟩) 1 1) [s] := by
  refine ⟨0, 1, rfl, hb, by simp, Nat.le_refl _, by decide, fun k hk => ?_, fun k hk => ?_, fun k hk => by simp⟩
  · obtain rfl : k = 0 := by simp at hk; omega
    rw [World.cell?_alloc_new]
    rfl
  · obtain rfl : k = 0 := by omega
    rw [World.cell?_alloc_new]
    rfl
theorem QRow.tail {w : World} {base g : Nat} {x : Bytes} {xs : List Bytes} {off cap : Nat} (h : QRow w base g (.slice (some ⟨g, off, none⟩) (xs.length + 1) cap) (x :: xs)) :
    QRow w base g (.slice (if cap = 1 then some ⟨g, off, none⟩ else (some ⟨g, off, none⟩ : Option Addr).map (·.add 1)) xs.length (cap - 1)) xs := by
  obtain ⟨off', cap', h1, h2, h3, h4, h5, h6, h7, h8⟩ := h
  injection h1 with e1 e2 e3
  injection e1 with e1
  injection e1 with e1 e1'
  subst e1'; subst e3
  rw [List.length_cons] at h4
  by_cases hc : cap = 1
  · rw [if_pos hc]
    have hx : xs = [] := List.eq_nil_of_length_eq_zero (by omega)
    subst hx
    exact ⟨off, cap - 1, rfl, h2, h3, by simp, by omega, fun k hk => (by simp at hk), fun k hk => by omega, fun k hk => by omega⟩
  · rw [if_neg hc]
    refine ⟨off + 1, cap - 1, by rw [Option.map_some, Go.WideShapes.add_plain], h2, h3, by omega, by omega, fun k hk => ?_, fun k hk => ?_, fun k hk => ?_⟩
    · have := h6 (k + 1) (by simp; omega)
      rw [show off + 1 + k = off + (k + 1) by omega]
      simpa using this
    · rw [show off + 1 + k = off + (k + 1) by omega]
      exact h7 (k + 1) (by omega)
    · rw [show off + 1 + k = off + (k + 1) by omega]
      exact h8 (k + 1) (by omega)
theorem set1_grown (w : World) (g o : Nat) (v : Value) : w.grownBy (w.setCell ⟨g, o, none⟩ v) (some g) :=
  ⟨rfl, rfl, rfl, by simp [World.setCell], fun k _ hk => Below.heap_setCell w ⟨g, o, none⟩ v k (fun e => hk (by rw [e]))⟩
theorem setCells_grown (g : Nat) : ∀ (vs : List Value) (o : Nat) (w : World), w.grownBy (w.setCells g o vs) (some g)
  | [], _, w => World.grownBy.refl w _
  | v :: r, o, w => (set1_grown w g o v).trans (setCells_grown g r (o + 1) _)

section
variable {ops : Array Oper} {rest : List Oper} {o : Oper} {a : Act} {Q : Exit → Act → World → Prop}
theorem app_queue (w : World) (hgd : o.guard = none) (s x : Operand) (ho : o.op = .call { callee := .builtin .append, args := #[s, x], argTypes := #[23, 23] })
    (base g : Nat) (v : Value) (l : List Bytes) (hs : a.eval s = v) (hq : QRow w base g v l)
    (ad : Addr) (c : Nat) (r : List Bytes) (m : Nat) (hm : m = r.length) (hx : a.eval x = .slice (some ad) m c) (hnews : ∀ j u, (scells r)[j]? = some u → w.cell? (ad.add j) = some u)
    (hsmall : (l.length + r.length) * 16 ≤ 140737488355328) (hbase : base ≤ w.heap.size)
    (h : ∀ v' g' w', QRow w' base g' v' (l ++ r) → w.grownBy w' (some g) → (g' = g ∨ g' = w.heap.size) → wpList Try.prog ops Q rest (a.put o.dst v') w') : wpList Try.prog ops Q (o :: rest) a w := by
  obtain ⟨i0, hi, hz0, hz1, hz2⟩ := str_info
  subst hm
  obtain ⟨off, cap, rfl, h2, h3, h4, h5, h6, h7, h8⟩ := hq
  have hl : (scells r).length = r.length * i0.size := by rw [scells_length, hz1, Nat.mul_one]
  have h1c : ∀ u ∈ scells r, u.oneCell' = true := fun u hu => by obtain ⟨_, _, rfl⟩ := List.mem_map.1 hu; rfl
  have hsrc := Src.ofSlice (P := Try.prog) w (size := i0.size) Try.underlying23 ad r.length c (scells r) hl hnews h1c
  by_cases hroom : l.length + r.length ≤ cap
  · have hrun := run_append_room_src (P := Try.prog) w 23 23 o.type 9 i0 Try.underlying23 hi g off l.length cap _ r.length (scells r) hsrc hroom
      (fun j hj => by rw [hz1, Nat.mul_one, Nat.add_assoc]; exact h7 _ (by rw [scells_length] at hj; omega)) (fun j hj => by rw [hz1, Nat.mul_one, Nat.add_assoc]; exact h8 _ (by rw [scells_length] at hj; omega))
    rw [hz1, Nat.mul_one] at hrun
    refine app_run w hgd s x _ _ ho _ _ _ _ hs hx hrun (h _ g _ ?_ (setCells_grown g _ _ _) (.inl rfl))
    have hin : ∀ j, j < (scells r).length → (w.cell? ⟨g, off + l.length + j, none⟩).isSome = true := fun j hj => by rw [Nat.add_assoc]; exact h7 _ (by rw [scells_length] at hj; omega)
    have hcell : ∀ k, k < l.length + r.length → (w.setCells g (off + l.length) (scells r)).cell? ⟨g, off + k, none⟩ = some (.string (S ((l ++ r).getD k []))) := fun k hk => by
      rcases Nat.lt_or_ge k l.length with hkl | hkl
      · rw [World.cell?_setCells_out g _ _ _ _ (fun _ _ => .inl (by show off + k < off + l.length; omega)), h6 k hkl]
        simp [List.getD, List.getElem?_append_left hkl, hkl]
      · have := World.cell?_setCells_in g (scells r) (off + l.length) w hin (k - l.length) (by rw [scells_length]; omega)
        rw [show off + l.length + (k - l.length) = off + k by omega] at this
        rw [this]
        simp [scells, List.getD, List.getElem?_append_right hkl, show k - l.length < r.length by omega]
    refine ⟨off, cap, by rw [List.length_append], h2, Nat.lt_of_lt_of_le h3 (setCells_grown g _ _ _).size, by rw [List.length_append]; exact hroom, h5, fun k hk => ?_, fun k hk => ?_, fun k hk => ?_⟩
    · rw [List.length_append] at hk
      rw [hcell k hk]
      simp [List.getD, List.length_append, hk]
    · rcases Nat.lt_or_ge k (l.length + r.length) with hkl | hkl
      · rw [hcell k hkl]; rfl
      · rw [World.cell?_setCells_out g _ _ _ _ (fun _ _ => .inr (by rw [scells_length]; show off + l.length + r.length ≤ off + k; omega))]
        exact h7 k hk
    · rw [World.frozen?_setCells]
      exact h8 k hk
  · have hold : (Builtin.firstCells i0.size l.length (.slice (some ⟨g, off, none⟩) l.length cap)).run Try.prog w.drew = .ok (scells l).toArray w.drew :=
      run_firstCells_some w.drew i0.size l.length ⟨g, off, none⟩ l.length cap (scells l) (by rw [scells_length, hz1, Nat.mul_one]) (fun j u hu => by
        obtain ⟨hj, rfl⟩ := List.getElem?_eq_some_iff.1 hu
        rw [Go.WideShapes.add_plain]
        have := h6 j (by rw [scells_length] at hj; exact hj)
        simpa [scells] using this)
    have hrun := run_append_grow_src (P := Try.prog) w 23 23 o.type 9 i0 (.string ⟨#[]⟩) Try.underlying23 hi hz0 (some ⟨g, off, none⟩) l.length cap (scells l) hold _ r.length (scells r) hsrc (by omega) (by omega) (growslice_fits (by omega) (by rw [hz2]; exact hsmall))
    have hge := grownCap_ge w (l.length + r.length) cap 9
    have hle := grownCap_le_maxLen w (l.length + r.length) cap 9 (by unfold maxLen; omega)
    generalize grownCap w (l.length + r.length) cap 9 = nc at *
    refine app_run w hgd s x _ _ ho _ _ _ _ hs hx hrun (h _ w.heap.size _ ?_ (by have hgr := World.grownBy_alloc w.drew (.cells ((scells l ++ scells r).toArray ++ Builtin.zeroCells (Value.string ⟨#[]⟩).cells (nc - (l.length + r.length))) 9) (some g); exact ⟨hgr.os, hgr.tape, hgr.output, hgr.size, hgr.block⟩) (.inr rfl))
    have hcell : ∀ k, (w.drew.alloc (.cells ((scells l ++ scells r).toArray ++ Builtin.zeroCells (Value.string ⟨#[]⟩).cells (nc - (l.length + r.length))) 9)).cell? ⟨w.heap.size, 0 + k, none⟩ = ((scells l ++ scells r).toArray ++ Builtin.zeroCells (Value.string ⟨#[]⟩).cells (nc - (l.length + r.length)))[k]? := fun k => by
      rw [Nat.zero_add]
      exact World.cell?_alloc_new w.drew _ _ k
    have hsz : ((scells l ++ scells r).toArray ++ Builtin.zeroCells (Value.string ⟨#[]⟩).cells (nc - (l.length + r.length))).size = nc := by
      simp only [Array.size_append, List.size_toArray, size_zeroCells, List.length_append, scells_length]
      show l.length + r.length + (nc - (l.length + r.length)) * 1 = nc
      omega
    refine ⟨0, nc, by rw [List.length_append], hbase, by simp, by rw [List.length_append]; exact hge, hle, fun k hk => ?_, fun k hk => ?_, fun k hk => World.frozen?_alloc_new w.drew _ _ _⟩
    · rw [hcell k, Array.getElem?_append_left (by simpa [scells_length] using hk), List.getElem?_toArray, ← scells_append, scells, List.getElem?_map, List.getElem?_eq_getElem hk]
      rfl
    · rw [hcell k]
      simp [hsz, hk]
end
end Go.Proofs.Ytmmmolbejfdamaa
