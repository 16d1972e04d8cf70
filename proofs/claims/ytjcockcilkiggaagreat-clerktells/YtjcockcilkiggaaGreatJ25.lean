/- slices.Concat at two or three []api.Entry returns a new slice with the entries of all; slices.Grow at nil makes the room. They write nothing that was there. -/
import Derived.Test.YtjcockcilkiggaaGreatJ06
import Derived.Test.YtjcockcilkiggaaGreatJ01
import Derived.Test.YtjcockcilkiggaaGreatJ24
import Derived.Lib.AppendZerosOnto
import Derived.Deep.DeepAppendRoom
import Derived.Handy
namespace Go.Proofs.YtjcockcilkiggaaGreat
set_option maxRecDepth 100000
open Go.RowKit

/-- What Grow leaves: an empty row with room for k. -/
def GrewE (k : Nat) (w : World) (e : Ending) (w' : World) : Prop :=
  ∃ v A c, e = .returned v ∧ v = .slice A 0 c ∧ ownsS w' w.heap.size v [] ∧ k ≤ c ∧ Below w.heap.size w w'

set_option maxRecDepth 100000 in
set_option maxHeartbeats 400000 in
theorem growE_nil (k : Nat) (w : World) (hk : k * 32 ≤ 281474976710656) :
    Calls Tryz.prog 98 #[.slice none 0 0, .int .i64 (k : Int)] w (GrewE k w) := by
  by_cases h0 : k = 0
  · subst h0
    go_enter Tryz.func98, Tryz.ntmps98
    go_wp2
    go_ret
    exact ⟨_, none, 0, rfl, rfl, ownsS.nil _ _, Nat.le_refl _, Below.refl _ _⟩
  · obtain ⟨i0, hi, hz0, hz1, hz2⟩ := ent_info
    have hr := fun ty => Lib.run_append_grow_zeros (P := Tryz.prog) w 39 3 ty 51 i0 (.agg #[.string ⟨#[]⟩, .string ⟨#[]⟩]) .i64 .i64 Tryz.underlying39 Tryz.underlying3 hi hz0 none 0 0 [] (by simp [Builtin.firstCells]) k (by omega) (by omega) (by omega) (by omega) (by rw [hz2]; omega) (by rw [hz2, Builtin.nextslicecap, if_pos (by omega)]; omega)
    have hcap := grownCap_ge w (0 + k) 0 51
    have hmax := grownCap_le_maxLen w (0 + k) 0 51 (by unfold maxLen; omega)
    generalize grownCap w (0 + k) 0 51 = cap at *
    clear hi hz0 hz1 hz2
    simp only [Nat.zero_add] at hr hcap
    have hkp : 0 < k := by omega
    have hcp : 0 < cap := by omega
    clear h0
    go_enter Tryz.func98, Tryz.ntmps98
    go_wp2_with (at_builtin; refine app_run _ rfl _ _ _ _ rfl _ _ _ _ rfl rfl (hr _) ?_)
    go_ret
    refine ⟨_, _, cap, rfl, rfl, .inr ⟨w.heap.size, cap, by rw [List.length_nil, Nat.zero_add]; rfl, Nat.le_refl _, by simpa using hmax, ?_⟩, hcap, ((Below.refl _ _).drew).alloc (Nat.le_refl _) _⟩
    refine (heap_alloc_new w.drew _).trans (congrArg (fun x => some (Obj.cells x 51 (0, 0))) ?_)
    have z1 := zeroCells_blanks k
    have z2 := zeroCells_blanks (cap - k)
    simp only [Value.cells] at z1 z2
    rw [z1, z2, List.nil_append, encells_blanks, encells_blanks, encells_blanks]
    apply Array.toList_inj.1
    simp only [Array.toList_append, List.replicate_append_replicate]
    congr 1
    omega

/-- append(out, s...): out a row of the call's own with room, s whatever slice of entries. -/
theorem appE_room {ops : Array Oper} {rest : List Oper} {o : Oper} {a : Act} {Q : Exit → Act → World → Prop} (w : World) (hgd : o.guard = none) (s x : Operand) (ho : o.op = .call { callee := .builtin .append, args := #[s, x], argTypes := #[39, 39] })
    (base : Nat) (A B : Option Addr) (c d : Nat) (l r : List Ent) (hs : a.eval s = .slice A l.length c) (hown : ownsS w base (.slice A l.length c) l)
    (hx : a.eval x = .slice B r.length d) (hr : Row w B (encells r)) (hroom : l.length + r.length ≤ c) (hsmall : (l.length + r.length) * 32 ≤ 140737488355328) (hbase : base ≤ w.heap.size)
    (h : ∀ w', ownsS w' base (.slice A (l ++ r).length c) (l ++ r) → w.grownBy w' (Value.slice A l.length c).ownBlock → wpList Tryz.prog ops Q rest (a.put o.dst (.slice A (l ++ r).length c)) w') : wpList Tryz.prog ops Q (o :: rest) a w := by
  obtain ⟨v', w', hrun, h1, h2, h3⟩ := run_appS w o.type base _ l hown B d r hr hsmall hbase
  obtain rfl := h3 A c rfl hroom
  exact app_run w hgd s x _ _ ho _ _ _ _ hs hx hrun (h w' h1 h2)

theorem appE_room' {ops : Array Oper} {rest : List Oper} {o : Oper} {a : Act} {Q : Exit → Act → World → Prop} (w : World) (hgd : o.guard = none) (s x : Operand) (ho : o.op = .call { callee := .builtin .append, args := #[s, x], argTypes := #[39, 39] })
    (base : Nat) (A B : Option Addr) (c d : Nat) (l r : List Ent) (n : Nat) (hn : n = l.length) (hs : a.eval s = .slice A n c) (hown : ownsS w base (.slice A l.length c) l)
    (hx : a.eval x = .slice B r.length d) (hr : Row w B (encells r)) (hroom : l.length + r.length ≤ c) (hsmall : (l.length + r.length) * 32 ≤ 140737488355328) (hbase : base ≤ w.heap.size)
    (h : ∀ w', ownsS w' base (.slice A (l ++ r).length c) (l ++ r) → w.grownBy w' (Value.slice A l.length c).ownBlock → wpList Tryz.prog ops Q rest (a.put o.dst (.slice A (l ++ r).length c)) w') : wpList Tryz.prog ops Q (o :: rest) a w := by
  subst hn
  exact appE_room w hgd s x ho base A B c d l r hs hown hx hr hroom hsmall hbase h

/-- What Concat leaves: a row of its own with both lists. -/
def JoinedE (l : List Ent) (w : World) (e : Ending) (w' : World) : Prop :=
  ∃ A c, e = .returned (.slice A l.length c) ∧ ownsS w' w.heap.size (.slice A l.length c) l ∧ Below w.heap.size w w'

set_option maxRecDepth 100000 in
set_option maxHeartbeats 1000000 in
theorem concatE2 (g : Nat) (A B : Option Addr) (c d : Nat) (ss tt : List Ent) (w : World) (hk : (ss.length + tt.length) * 32 ≤ 140737488355328)
    (h0 : w.cell? ⟨g, 0, none⟩ = some (.slice A ss.length c)) (h1 : w.cell? ⟨g, 1, none⟩ = some (.slice B tt.length d)) (hA : Row w A (encells ss)) (hB : Row w B (encells tt)) :
    Calls Tryz.prog 87 #[.slice (some ⟨g, 0, none⟩) 2 2] w (JoinedE (ss ++ tt) w) := by
  go_enter Tryz.func87, Tryz.ntmps87
  go_wp2_with fail
  refine wp_loop_rounds 3 ?_
  rw [rounds_succ]
  go_wp2_with fail
  rw [rounds_succ]
  go_wp2_with fail
  rw [rounds_succ]
  go_wp2_with fail
  rw [show ((ss.length : Int) + (tt.length : Int)) = ((ss.length + tt.length : Nat) : Int) from by omega]
  refine (growE_nil (ss.length + tt.length) _ (by omega)).mono ?_
  rintro e w1 ⟨v, A1, c1, rfl, rfl, hown1, hc1, hb1⟩
  have g0 := (hb1.cell (World.block_lt_of_cell? _ _ h0)).trans h0
  have g1 := (hb1.cell (World.block_lt_of_cell? _ _ h1)).trans h1
  have hA1 := hA.below hb1
  have hB1 := hB.below hb1
  go_wp2_with fail
  refine wp_loop_rounds 3 ?_
  rw [rounds_succ]
  go_wp2_with (at_builtin; refine appE_room w1 rfl _ _ rfl w.heap.size A1 A c1 c [] ss rfl hown1 rfl hA1 (by simp; omega) (by simp; omega) hb1.size ?_; intro w2 hown2 hg2)
  have hb2 : Below w.heap.size w w2 := hb1.grown hg2 hb1.size (fun k hk' => (hown1.lt k hk').1)
  simp only [List.nil_append] at hown2
  clear g0 g1 hA1 hB1
  have g0 := (hb2.cell (World.block_lt_of_cell? _ _ h0)).trans h0
  have g1 := (hb2.cell (World.block_lt_of_cell? _ _ h1)).trans h1
  have hB2 := hB.below hb2
  rw [rounds_succ]
  go_wp2_with (at_builtin; refine appE_room w2 rfl _ _ rfl w.heap.size A1 B c1 d ss tt rfl hown2 rfl hB2 hc1 hk hb2.size ?_; intro w3 hown3 hg3)
  have hb3 : Below w.heap.size w w3 := hb2.grown hg3 hb2.size (fun k hk' => (hown2.lt k hk').1)
  rw [rounds_succ]
  go_wp2
  go_ret
  exact ⟨A1, c1, by rw [List.length_append]; rfl, hown3, hb3⟩

set_option maxRecDepth 100000 in
set_option maxHeartbeats 1000000 in
theorem concatE3 (g : Nat) (A B C : Option Addr) (c d f : Nat) (ss tt uu : List Ent) (w : World) (hk : (ss.length + tt.length + uu.length) * 32 ≤ 140737488355328)
    (h0 : w.cell? ⟨g, 0, none⟩ = some (.slice A ss.length c)) (h1 : w.cell? ⟨g, 1, none⟩ = some (.slice B tt.length d)) (h2 : w.cell? ⟨g, 2, none⟩ = some (.slice C uu.length f)) (hA : Row w A (encells ss)) (hB : Row w B (encells tt)) (hC : Row w C (encells uu)) :
    Calls Tryz.prog 87 #[.slice (some ⟨g, 0, none⟩) 3 3] w (JoinedE (ss ++ tt ++ uu) w) := by
  go_enter Tryz.func87, Tryz.ntmps87
  go_wp2_with fail
  refine wp_loop_rounds 4 ?_
  rw [rounds_succ]
  go_wp2_with fail
  rw [rounds_succ]
  go_wp2_with fail
  rw [rounds_succ]
  go_wp2_with fail
  rw [rounds_succ]
  go_wp2_with fail
  rw [show ((ss.length : Int) + (tt.length : Int) + (uu.length : Int)) = ((ss.length + tt.length + uu.length : Nat) : Int) from by omega]
  refine (growE_nil (ss.length + tt.length + uu.length) _ (by omega)).mono ?_
  rintro e w1 ⟨v, A1, c1, rfl, rfl, hown1, hc1, hb1⟩
  have g0 := (hb1.cell (World.block_lt_of_cell? _ _ h0)).trans h0
  have hA1 := hA.below hb1
  go_wp2_with fail
  refine wp_loop_rounds 4 ?_
  rw [rounds_succ]
  go_wp2_with (at_builtin; refine appE_room w1 rfl _ _ rfl w.heap.size A1 A c1 c [] ss rfl hown1 rfl hA1 (by simp; omega) (by simp; omega) hb1.size ?_; intro w2 hown2 hg2)
  have hb2 : Below w.heap.size w w2 := hb1.grown hg2 hb1.size (fun k hk' => (hown1.lt k hk').1)
  simp only [List.nil_append] at hown2
  clear g0 hA1
  have g1 := (hb2.cell (World.block_lt_of_cell? _ _ h1)).trans h1
  have hB2 := hB.below hb2
  rw [rounds_succ]
  go_wp2_with (at_builtin; refine appE_room w2 rfl _ _ rfl w.heap.size A1 B c1 d ss tt rfl hown2 rfl hB2 (by omega) (by omega) hb2.size ?_; intro w3 hown3 hg3)
  have hb3 : Below w.heap.size w w3 := hb2.grown hg3 hb2.size (fun k hk' => (hown2.lt k hk').1)
  clear g1 hB2
  have g2 := (hb3.cell (World.block_lt_of_cell? _ _ h2)).trans h2
  have hC3 := hC.below hb3
  have hro : (ss ++ tt).length + uu.length ≤ c1 := by rw [List.length_append]; exact hc1
  have hro2 : ((ss ++ tt).length + uu.length) * 32 ≤ 140737488355328 := by rw [List.length_append]; exact hk
  rw [rounds_succ]
  go_wp2_with (at_builtin; refine appE_room' w3 rfl _ _ rfl w.heap.size A1 C c1 f (ss ++ tt) uu _ List.length_append.symm rfl hown3 rfl hC3 hro hro2 hb3.size ?_; intro w4 hown4 hg4)
  have hb4 : Below w.heap.size w w4 := hb3.grown hg4 hb3.size (fun k hk' => (hown3.lt k hk').1)
  clear g2 hC3
  rw [rounds_succ]
  go_wp2
  go_ret
  have e : (ss ++ tt ++ uu).length = ss.length + (tt.length + uu.length) := by simp
  exact ⟨A1, c1, by rw [e]; rfl, hown4, hb4⟩

/-- The same at a new array of slices. -/
theorem concatE3' (w0 : World) (ty : TypeId) (g : Nat) (hg : g = w0.heap.size) (A B C : Option Addr) (c d f : Nat) (ss tt uu : List Ent) (na nb nc : Nat) (ha : ss.length = na) (hb : tt.length = nb) (hc : uu.length = nc) (hk : (na + nb + nc) * 32 ≤ 140737488355328)
    (hA : Row w0 A (encells ss)) (hB : Row w0 B (encells tt)) (hC : Row w0 C (encells uu)) :
    Calls Tryz.prog 87 #[.slice (some ⟨g, 0, none⟩) 3 3] (w0.alloc (.cells #[.slice A na c, .slice B nb d, .slice C nc f] ty)) (JoinedE (ss ++ tt ++ uu) (w0.alloc (.cells #[.slice A na c, .slice B nb d, .slice C nc f] ty))) := by
  subst hg; subst ha; subst hb; subst hc
  exact concatE3 w0.heap.size A B C c d f ss tt uu _ hk (by rw [World.cell?_alloc_new]; rfl) (by rw [World.cell?_alloc_new]; rfl) (by rw [World.cell?_alloc_new]; rfl) (hA.alloc _) (hB.alloc _) (hC.alloc _)
theorem concatE2' (w0 : World) (ty : TypeId) (g : Nat) (hg : g = w0.heap.size) (A B : Option Addr) (c d : Nat) (ss tt : List Ent) (na nb : Nat) (ha : ss.length = na) (hb : tt.length = nb) (hk : (na + nb) * 32 ≤ 140737488355328)
    (hA : Row w0 A (encells ss)) (hB : Row w0 B (encells tt)) :
    Calls Tryz.prog 87 #[.slice (some ⟨g, 0, none⟩) 2 2] (w0.alloc (.cells #[.slice A na c, .slice B nb d] ty)) (JoinedE (ss ++ tt) (w0.alloc (.cells #[.slice A na c, .slice B nb d] ty))) := by
  subst hg; subst ha; subst hb
  exact concatE2 w0.heap.size A B c d ss tt _ hk (by rw [World.cell?_alloc_new]; rfl) (by rw [World.cell?_alloc_new]; rfl) (hA.alloc _) (hB.alloc _)

theorem concatE2d (w0 : World) (ty : TypeId) (A B : Option Addr) (c d : Nat) (ss tt : List Ent) (na nb : Nat) (ha : ss.length = na) (hb : tt.length = nb) (hk : (na + nb) * 32 ≤ 140737488355328)
    (hA : Row w0 A (encells ss)) (hB : Row w0 B (encells tt)) :
    Calls Tryz.prog 87 #[.slice (some ⟨w0.heap.size, 0, none⟩) 2 2] (w0.alloc (.cells #[.slice A na c, .slice B nb d] ty)).drew (JoinedE (ss ++ tt) (w0.alloc (.cells #[.slice A na c, .slice B nb d] ty)).drew) :=
  concatE2' w0.drew ty _ rfl A B c d ss tt na nb ha hb hk hA hB

theorem encells_take (es : List Ent) (p : Nat) : encells (es.take p) = (encells es).take (p * 2) := by
  induction es generalizing p with
  | nil => simp [encells]
  | cons x es ih =>
    cases p with
    | zero => simp [encells]
    | succ p =>
      have := ih p
      simp only [encells] at this ⊢
      rw [List.take_succ_cons, List.flatMap_cons, List.flatMap_cons, this, show (p + 1) * 2 = p * 2 + 2 by omega]
      simp
theorem encells_drop (es : List Ent) (p : Nat) : encells (es.drop p) = (encells es).drop (p * 2) := by
  induction es generalizing p with
  | nil => simp [encells]
  | cons x es ih =>
    cases p with
    | zero => simp [encells]
    | succ p =>
      have := ih p
      simp only [encells] at this ⊢
      rw [List.drop_succ_cons, List.flatMap_cons, this, show (p + 1) * 2 = p * 2 + 2 by omega]
      simp
theorem Row.takeE {w : World} {A : Option Addr} {es : List Ent} (h : Row w A (encells es)) (p : Nat) : Row w A (encells (es.take p)) := by rw [encells_take]; exact h.take _
theorem Row.dropE {w : World} {A : Option Addr} {es : List Ent} (h : Row w A (encells es)) (p : Nat) : Row w (A.map (·.add (p * 2))) (encells (es.drop p)) := by rw [encells_drop]; exact h.drop _
end Go.Proofs.YtjcockcilkiggaaGreat
