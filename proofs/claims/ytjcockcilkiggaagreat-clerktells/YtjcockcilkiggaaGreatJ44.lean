/- What the reference's Levels keeps to while it reckons the hashes of all prefixes: plain facts, and the memory that it holds. -/
import Derived.Test.YtjcockcilkiggaaGreatJ43
import Derived.Test.YtjcockcilkiggaaGreatJ05
import Derived.Deep.RegionWith
namespace Go.Proofs.YtjcockcilkiggaaGreat
open Go.RowKit Go.Maps

section
variable {ops : Array Oper} {rest : List Oper} {o : Oper} {a : Act} {Q : Exit → Act → World → Prop}
/-- One entry behind entries, and where the new row lies. -/
theorem app_ent_at (w : World) (hgd : o.guard = none) (s x : Operand) (ho : o.op = .call { callee := .builtin .append, args := #[s, x], argTypes := #[39, 39] })
    (base : Nat) (v : Value) (l : List Ent) (hs : a.eval s = v) (hown : w.ownsRow base 51 2 v l.length (encells l))
    (ad : Addr) (c : Nat) (y : Ent) (hx : a.eval x = .slice (some ad) 1 c) (hnews : ∀ j u, (encells [y])[j]? = some u → w.cell? (ad.add j) = some u)
    (hsmall : (l.length + 1) * 32 ≤ 140737488355328) (hbase : base ≤ w.heap.size)
    (h : ∀ v' w', w'.ownsRow base 51 2 v' (l ++ [y]).length (encells (l ++ [y])) → w.grownBy w' v.ownBlock → (v'.ownBlock = v.ownBlock ∨ v'.ownBlock = some w.heap.size) → wpList Tryz.prog ops Q rest (a.put o.dst v') w') : wpList Tryz.prog ops Q (o :: rest) a w := by
  obtain ⟨i0, hi, hz0, hz1, hz2⟩ := ent_info
  refine wpList_append_own_at w hgd s x 39 ho base 51 i0 (.agg #[.string ⟨#[]⟩, .string ⟨#[]⟩]) 2 32 Tryz.underlying39 hi hz0 hz1 hz2 rfl (by decide) v l.length (encells l) hs hown ad 1 c (encells [y]) hx (by rw [encells_length]; rfl) hnews
    (fun u hu => by
      obtain ⟨y, _, hy⟩ := List.mem_flatMap.1 hu
      rcases List.mem_cons.1 hy with rfl | hy
      · rfl
      · rw [List.mem_singleton.1 hy]; rfl) (by unfold maxLen; omega) hsmall hbase ?_
  intro v' w' h1 h2 _ h3
  exact h v' w' (by rw [encells_append, List.length_append, List.length_singleton]; exact h1) h2 h3
end

/-- The hashes of all prefixes from length d on stand in the map, and nothing else. -/
def LevTo (es : List Ent) (d : Nat) (f : Bytes → Option Value) : Prop :=
  (∀ q v, f q = some v → q.length ≤ 16 ∧ v = .int .u64 (prefMark es q : Int)) ∧ ∀ x ∈ es, ∀ k, d ≤ k → k ≤ 16 → f ((Bin.of x.1).take k) ≠ none
theorem LevTo.look {es : List Ent} {d : Nat} {f : Bytes → Option Value} (h : LevTo es d f) (q : Bytes) (hq : q.length ≤ 16) (hd : d ≤ q.length) : f q = some (.int .u64 (prefMark es q : Int)) ∨ f q = none ∧ prefMark es q = nil0 := by
  cases hf : f q with
  | some v => exact .inl (by rw [(h.1 q v hf).2])
  | none =>
    refine .inr ⟨rfl, prefMark_none es q hq fun x hx e => ?_⟩
    have := h.2 x hx q.length hd hq
    rw [e] at this
    exact this hf
/-- All that Levels holds while it reckons: the leaves, the cells of its two captured variables, the map of hashes. -/
structure LV (w w' : World) (es : List Ent) (n0 nM : Nat) (g f : Bytes → Option Value) : Prop where
  leaves : MapOf w' w.heap.size es.length g
  rows : Grouped w' (w.heap.size + 1) es g
  low : ∀ p v k, g p = some v → v.ownBlock = some k → k < n0
  cN : w'.cell? ⟨n0, 0, none⟩ = some (.int .u64 (nil0 : Int))
  cM : w'.cell? ⟨n0 + 2, 0, none⟩ = some (.map (some (n0 + 1)))
  marks : MapOf w' (n0 + 1) nM f
  below : Below w.heap.size w w'
  lo : w.heap.size < n0
  hi : n0 + 3 ≤ w'.heap.size
theorem cell_grown {w w' : World} {row : Option Nat} (hg : w.grownBy w' row) (b o : Nat) (hb : b < w.heap.size) (hne : some b ≠ row) : w'.cell? ⟨b, o, none⟩ = w.cell? ⟨b, o, none⟩ := by
  simp only [World.cell?, hg.block b hb hne]
theorem LV.kept {w w' w'' : World} {es : List Ent} {n0 nM : Nat} {g f : Bytes → Option Value} {row : Option Nat} (h : LV w w' es n0 nM g f) (hg : w'.grownBy w'' row) (hr : ∀ k, row = some k → n0 + 3 ≤ k) : LV w w'' es n0 nM g f := by
  have h1 := h.lo
  have h2 := h.hi
  have ne : ∀ b, b < n0 + 3 → some b ≠ row := fun b hb e => by have := hr b e.symm; omega
  refine ⟨h.leaves.kept hg (ne _ (by omega)), h.rows.kept hg (fun p v hv e => ?_), h.low, ?_, ?_, h.marks.kept hg (ne _ (by omega)), h.below.grown hg h.below.size (fun k hk => by have := hr k hk; omega), h.lo, Nat.le_trans h.hi hg.size⟩
  · obtain ⟨k, hk, _⟩ := h.rows.block hv
    have := h.low p v k hv hk
    rw [hk] at e
    exact ne k (by omega) e
  · rw [cell_grown hg _ _ (by omega) (ne _ (by omega))]; exact h.cN
  · rw [cell_grown hg _ _ (by omega) (ne _ (by omega))]; exact h.cM
theorem LV.grow {w w' w'' : World} {es : List Ent} {n0 nM : Nat} {g f : Bytes → Option Value} (h : LV w w' es n0 nM g f) (hb : Below w'.heap.size w' w'') : LV w w'' es n0 nM g f := h.kept (grown_below hb none) (fun k hk => by cases hk)
theorem LV.store {w w' w'' : World} {es : List Ent} {n0 nM nM' : Nat} {g f f' : Bytes → Option Value} (h : LV w w' es n0 nM g f) (hg : w'.grownBy w'' (some (n0 + 1))) (hm : MapOf w'' (n0 + 1) nM' f') : LV w w'' es n0 nM' g f' := by
  have h1 := h.lo
  have h2 := h.hi
  have ne : ∀ b, b ≠ n0 + 1 → some b ≠ some (n0 + 1) := fun b hb e => by injection e with e; exact hb e
  refine ⟨h.leaves.kept hg (ne _ (by omega)), h.rows.kept hg (fun p v hv e => ?_), h.low, ?_, ?_, hm, h.below.grown hg h.below.size (fun k hk => by injection hk with hk; omega), h.lo, Nat.le_trans h.hi hg.size⟩
  · obtain ⟨k, hk, _⟩ := h.rows.block hv
    have := h.low p v k hv hk
    rw [hk] at e
    injection e with e
    omega
  · rw [cell_grown hg _ _ (by omega) (ne _ (by omega))]; exact h.cN
  · rw [cell_grown hg _ _ (by omega) (ne _ (by omega))]; exact h.cM
theorem LV.make {w wr : World} {es : List Ent} {g : Bytes → Option Value} (hmap : MapOf wr w.heap.size es.length g) (hgrp : Grouped wr (w.heap.size + 1) es g) (hws : w.heap.size + 1 ≤ wr.heap.size) (hbl : Below w.heap.size w wr) (t t' : TypeId) :
    LV w (((wr.alloc (.cells #[.int .u64 (nil0 : Int)] t)).alloc (.map #[] 0)).alloc (.cells #[.map (some (wr.heap.size + 1))] t')) es wr.heap.size 0 g (fun _ => none) := by
  have hsz := hbl.size
  have e1 : (wr.alloc (.cells #[.int .u64 (nil0 : Int)] t)).heap.size = wr.heap.size + 1 := by simp
  have e2 : ((wr.alloc (.cells #[.int .u64 (nil0 : Int)] t)).alloc (.map #[] 0)).heap.size = wr.heap.size + 2 := by simp
  have hm := (MapOf.made (wr.alloc (.cells #[.int .u64 (nil0 : Int)] t))).alloc (.cells #[.map (some (wr.heap.size + 1))] t')
  rw [e1] at hm
  have b1 : Below wr.heap.size wr (((wr.alloc (.cells #[.int .u64 (nil0 : Int)] t)).alloc (.map #[] 0)).alloc (.cells #[.map (some (wr.heap.size + 1))] t')) :=
    (((Below.refl _ _).alloc (Nat.le_refl _) _).alloc (by simp) _).alloc (by rw [e2]; omega) _
  refine ⟨hmap.below b1, hgrp.below b1, fun p v k hv hk => ?_, ?_, ?_, hm, below_chain hbl b1, by omega, by simp⟩
  · obtain ⟨j, hj, _, hj'⟩ := hgrp.block hv
    rw [hk] at hj
    injection hj with hj
    omega
  · rw [World.cell?_alloc_lt _ _ _ (show _ < _ by rw [e2]; show wr.heap.size < _; omega), World.cell?_alloc_lt _ _ _ (by simp), World.cell?_alloc_new]
    rfl
  · have := World.cell?_alloc_new ((wr.alloc (.cells #[.int .u64 (nil0 : Int)] t)).alloc (.map #[] 0)) #[.map (some (wr.heap.size + 1))] t' 0
    rw [e2] at this
    rw [this]
    rfl
theorem leafBytes_le (es : List Ent) (h : ∀ x ∈ es, x.1.length + x.2.length ≤ 596) : (leafBytes es).length ≤ es.length * 600 := by
  induction es with
  | nil => simp [leafBytes]
  | cons x es ih =>
    have h1 := ih fun y hy => h y (List.mem_cons_of_mem _ hy)
    have h2 := h x List.mem_cons_self
    have e : leafBytes (x :: es) = Wire.enc [x.1, x.2] ++ leafBytes es := rfl
    have e2 : (Wire.enc [x.1, x.2]).length ≤ 600 := by
      rw [Wire.enc_length]
      simp [Wire.encLen]
      omega
    rw [e, List.length_append, List.length_cons]
    omega
theorem leafOf_le (es : List Ent) (hm : es.length ≤ 1000) (h : ∀ x ∈ es, x.1.length + x.2.length ≤ 596) : (leafOf es).length ≤ maxLen := by
  have h1 := leafBytes_le es h
  unfold leafOf maxLen
  split
  · simp
  · rw [List.length_cons]
    omega
theorem nodeOf_le (a b : Nat) : (nodeOf a b).length ≤ maxLen := by
  unfold nodeOf maxLen
  split
  · simp
  · simp [said, be8]
/-- Of the leaves those that have come have their hash in the map. -/
def LeafTo (es : List Ent) (left : Bytes → Bool) (f : Bytes → Option Value) : Prop :=
  (∀ q v, f q = some v → q.length ≤ 16 ∧ v = .int .u64 (prefMark es q : Int)) ∧ ∀ x ∈ es, left (Bin.of x.1) = false → f (Bin.of x.1) ≠ none
theorem LeafTo.step {es : List Ent} {left : Bytes → Bool} {f : Bytes → Option Value} (h : LeafTo es left f) (p : Bytes) (hp : p.length = 16) :
    LeafTo es (fun q => left q && !(q == p)) (fun q => if q = p then some (.int .u64 (Hash.of (leafOf (at16 es p)) : Int)) else f q) := by
  refine ⟨fun q v hv => ?_, fun x hx hl hn => ?_⟩
  · dsimp only at hv
    by_cases e : q = p
    · rw [if_pos e] at hv
      injection hv with hv
      subst e
      exact ⟨by omega, by rw [← hv, prefMark_leaf es q hp]⟩
    · rw [if_neg e] at hv
      exact h.1 q v hv
  · dsimp only at hl hn
    by_cases e : Bin.of x.1 = p
    · rw [if_pos e] at hn
      cases hn
    · rw [if_neg e] at hn
      refine h.2 x hx ?_ hn
      rw [beq_eq_false_iff_ne.2 e, Bool.not_false, Bool.and_true] at hl
      exact hl
theorem LeafTo.done {es : List Ent} {left : Bytes → Bool} {f : Bytes → Option Value} (h : LeafTo es left f) (hl : ∀ p, left p = false) : LevTo es 16 f := by
  refine ⟨h.1, fun x hx k h1 h2 => ?_⟩
  obtain rfl : k = 16 := by omega
  rw [List.take_of_length_le (by rw [Bin.of_length]; exact Nat.le_refl _)]
  exact h.2 x hx (hl _)
/-- At one level, those leaves that have come have their prefix's hash in the map. -/
def NodeTo (es : List Ent) (d : Nat) (left : Bytes → Bool) (f : Bytes → Option Value) : Prop := LevTo es (d + 1) f ∧ ∀ x ∈ es, left (Bin.of x.1) = false → f ((Bin.of x.1).take d) ≠ none
theorem NodeTo.start {es : List Ent} {d : Nat} {left : Bytes → Bool} {f : Bytes → Option Value} (h : LevTo es (d + 1) f) (hl : ∀ x ∈ es, left (Bin.of x.1) = true) : NodeTo es d left f :=
  ⟨h, fun x hx e => by rw [hl x hx] at e; cases e⟩
theorem NodeTo.have {es : List Ent} {d : Nat} {left : Bytes → Bool} {f : Bytes → Option Value} (h : NodeTo es d left f) (p : Bytes) (hf : f (p.take d) ≠ none) : NodeTo es d (fun q => left q && !(q == p)) f := by
  refine ⟨h.1, fun x hx hl => ?_⟩
  dsimp only at hl
  by_cases e : Bin.of x.1 = p
  · rw [e]; exact hf
  · rw [beq_eq_false_iff_ne.2 e, Bool.not_false, Bool.and_true] at hl
    exact h.2 x hx hl
theorem NodeTo.store {es : List Ent} {d : Nat} {left : Bytes → Bool} {f : Bytes → Option Value} (h : NodeTo es d left f) (p : Bytes) (hp : (p.take d).length ≤ 16) (v : Value) (hv : v = .int .u64 (prefMark es (p.take d) : Int)) :
    NodeTo es d (fun q => left q && !(q == p)) (fun q => if q = p.take d then some v else f q) := by
  have hk : ∀ q, f q ≠ none → (fun q => if q = p.take d then some v else f q) q ≠ none := fun q hq => by
    show (if q = p.take d then some v else f q) ≠ none
    by_cases e : q = p.take d
    · rw [if_pos e]; simp
    · rw [if_neg e]; exact hq
  refine ⟨⟨fun q u hu => ?_, fun x hx k h1 h2 => hk _ (h.1.2 x hx k h1 h2)⟩, fun x hx hl => ?_⟩
  · dsimp only at hu
    by_cases e : q = p.take d
    · rw [if_pos e] at hu
      injection hu with hu
      subst e
      exact ⟨hp, by rw [← hu, hv]⟩
    · rw [if_neg e] at hu
      exact h.1.1 q u hu
  · dsimp only at hl
    by_cases e : Bin.of x.1 = p
    · show (if (Bin.of x.1).take d = p.take d then some v else f ((Bin.of x.1).take d)) ≠ none
      rw [e, if_pos rfl]
      simp
    · rw [beq_eq_false_iff_ne.2 e, Bool.not_false, Bool.and_true] at hl
      exact hk _ (h.2 x hx hl)
theorem NodeTo.put {es : List Ent} {d : Nat} {left : Bytes → Bool} {f : Bytes → Option Value} (h : NodeTo es d left f) (p : Bytes) (hd : (p.take d).length = d) (h16 : d < 16) (m : Nat) (hm : Hash.of (nodeOf (prefMark es (p.take d ++ [48])) (prefMark es (p.take d ++ [49]))) = m) :
    NodeTo es d (fun q => left q && !(q == p)) (fun q => if q = p.take d then some (.int .u64 (m : Int)) else f q) := by
  have e : prefMark es (p.take d) = m := by rw [prefMark_node es _ (by omega), hm]
  exact h.store p (by omega) _ (by rw [e])
theorem NodeTo.done {es : List Ent} {d : Nat} {left : Bytes → Bool} {f : Bytes → Option Value} (h : NodeTo es d left f) (hl : ∀ p, left p = false) : LevTo es d f := by
  refine ⟨h.1.1, fun x hx k h1 h2 => ?_⟩
  rcases Nat.lt_or_ge d k with hlt | hge
  · exact h.1.2 x hx k (by omega) h2
  · obtain rfl : k = d := by omega
    exact h.2 x hx (hl _)
theorem at16_mem {es : List Ent} {p : Bytes} (h : at16 es p ≠ []) : ∃ x ∈ es, Bin.of x.1 = p := by
  obtain ⟨x, hx⟩ := List.exists_mem_of_ne_nil _ h
  unfold at16 at hx
  rw [List.mem_filter, beq_iff_eq] at hx
  exact ⟨x, hx.1, hx.2⟩
def LevelsGives (es : List Ent) (w : World) (e : Ending) (w' : World) : Prop := ∃ b n f, e = .returned (.map (some b)) ∧ MapOf w' b n f ∧ LevTo es 0 f ∧ Below w.heap.size w w'

end Go.Proofs.YtjcockcilkiggaaGreat
