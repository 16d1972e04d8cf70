/- slices.Concat at two []string returns a new slice with the strings of both; slices.Grow at nil makes the room. They write nothing that was there. -/
import Derived.Test.YteclnibbgdbjfaaApps
import Derived.Lib.AppendZerosOnto
import Derived.Deep.DeepAppendRoom
import Derived.Handy
namespace Go.Proofs.Yteclnibbgdbjfaa
open Go.RowKit

/-- What Grow leaves: an empty row with room for k. -/
def Grew (k : Nat) (w : World) (e : Ending) (w' : World) : Prop :=
  ∃ v A c, e = .returned v ∧ v = .slice A 0 c ∧ w'.ownsRow w.heap.size 9 1 v 0 [] ∧ k ≤ c ∧ Below w.heap.size w w'

set_option maxRecDepth 100000 in
set_option maxHeartbeats 400000 in
theorem grow_nil (k : Nat) (w : World) (hk : k * 16 ≤ 281474976710656) :
    Calls Try.prog 24 #[.slice none 0 0, .int .i64 (k : Int)] w (Grew k w) := by
  by_cases h0 : k = 0
  · subst h0
    go_enter Try.func24, Try.ntmps24
    go_wp2
    go_ret
    exact ⟨_, none, 0, rfl, rfl, World.ownsRow_nil _ _ _ _, Nat.le_refl _, Below.refl _ _⟩
  · obtain ⟨i0, hi, hz0, hz1, hz2⟩ := str_info
    have hr := fun ty => Lib.run_append_grow_zeros (P := Try.prog) w 22 3 ty 9 i0 (.string ⟨#[]⟩) .i64 .i64 Try.underlying22 Try.underlying3 hi hz0 none 0 0 [] (by simp [Builtin.firstCells]) k (by omega) (by omega) (by omega) (by omega) (by rw [hz2]; omega) (by rw [hz2, Builtin.nextslicecap, if_pos (by omega)]; omega)
    have hcap := grownCap_ge w (0 + k) 0 9
    have hmax := grownCap_le_maxLen w (0 + k) 0 9 (by unfold maxLen; omega)
    generalize grownCap w (0 + k) 0 9 = cap at *
    clear hi hz0 hz1 hz2
    simp only [Nat.zero_add] at hr hcap
    have hkp : 0 < k := by omega
    have hcp : 0 < cap := by omega
    clear h0
    go_enter Try.func24, Try.ntmps24
    go_wp2_with (at_builtin; refine app_run _ rfl _ _ _ _ rfl _ _ _ _ rfl rfl (hr _) ?_)
    go_ret
    refine ⟨_, _, cap, rfl, rfl, ⟨by simp, .inr ⟨w.heap.size, cap, _, rfl, Nat.le_refl _, heap_alloc_new w.drew _, Nat.zero_le _, hmax, ?_, by simp⟩⟩, hcap, ((Below.refl _ _).drew).alloc (Nat.le_refl _) _⟩
    simp only [Array.size_append, size_zeroCells]
    simp
    omega

/-- append(out, s...): out a row of the call's own with room, s whatever slice of strings. -/
theorem app_room {ops : Array Oper} {rest : List Oper} {o : Oper} {a : Act} {Q : Exit → Act → World → Prop} (w : World) (hgd : o.guard = none) (s x : Operand) (ho : o.op = .call { callee := .builtin .append, args := #[s, x], argTypes := #[22, 22] })
    (base : Nat) (A B : Option Addr) (c d : Nat) (l r : List Bytes) (hs : a.eval s = .slice A l.length c) (hown : w.ownsRow base 9 1 (.slice A l.length c) l.length (scells l))
    (hx : a.eval x = .slice B r.length d) (hr : Row w B (scells r)) (hroom : l.length + r.length ≤ c) 
    (h : ∀ w', w'.ownsRow base 9 1 (.slice A (l ++ r).length c) (l ++ r).length (scells (l ++ r)) → w.grownBy w' (Value.slice A l.length c).ownBlock → wpList Try.prog ops Q rest (a.put o.dst (.slice A (l ++ r).length c)) w') : wpList Try.prog ops Q (o :: rest) a w := by
  obtain ⟨i0, hi, hz0, hz1, hz2⟩ := str_info
  by_cases hr0 : r = []
  · subst hr0
    simp only [List.append_nil] at h
    have hrun : (Builtin.append_ #[22, 22] o.type #[.slice A l.length c, .slice B 0 d]).run Try.prog w = .ok (.slice A l.length c) w := by
      rcases hown.2 with ⟨e, e0⟩ | ⟨g, cap, cur, e, _, _, hnc, _⟩
      · injection e with e1 e2 e3
        subst e1; subst e3
        have hl : l = [] := List.eq_nil_of_length_eq_zero e0
        subst hl
        cases B <;> simp [Builtin.append_, run_underlying Try.underlying22, sizeOf, typeInfo, hi, Builtin.lenOf, Builtin.firstCells, loadCells, loadCellsFrom]
      · injection e with e1 e2 e3
        subst e1; subst e3
        cases B <;> simp [Builtin.append_, run_underlying Try.underlying22, sizeOf, typeInfo, hi, Builtin.lenOf, Builtin.firstCells, loadCells, loadCellsFrom, hnc, storeCells]
    exact app_run w hgd s x _ _ ho _ _ _ _ hs hx hrun (h w hown (World.grownBy.refl w _))
  · have hpos : 0 < r.length := List.length_pos_iff.2 hr0
    obtain ⟨g, off, rfl, hc⟩ := hr (by rw [scells_length]; exact hpos)
    obtain ⟨g0, rfl⟩ : ∃ g0, A = some ⟨g0, 0, none⟩ := by
      rcases hown.2 with ⟨e, _⟩ | ⟨g0, cap, cur, e, _⟩
      · injection e with e1 e2 e3
        omega
      · injection e with e1 e2 e3
        exact ⟨g0, e1⟩
    refine wpList_append_own_spare w hgd s x 22 ho base 9 i0 1 Try.underlying22 hi hz1 g0 l.length c (scells l) hs hown ⟨g, off, none⟩ r.length d (scells r) hx (by rw [scells_length]; omega) (fun j u hu => ?_)
      (fun u hu => by obtain ⟨_, _, rfl⟩ := List.mem_map.1 hu; rfl) hroom ?_
    · obtain ⟨hj, rfl⟩ := List.getElem?_eq_some_iff.1 hu
      rw [Go.WideShapes.add_plain]
      exact hc j hj
    · intro w' h1 h2
      refine (congrArg (fun n => wpList Try.prog ops Q rest (a.put o.dst (.slice (some ⟨g0, 0, none⟩) n c)) w') (List.length_append : (l ++ r).length = l.length + r.length)).mp (h w' ?_ h2)
      rw [scells_append, List.length_append]
      exact h1

/-- What Concat leaves: a row of its own with both lists. -/
def Joined (l : List Bytes) (w : World) (e : Ending) (w' : World) : Prop :=
  ∃ A c, e = .returned (.slice A l.length c) ∧ w'.ownsRow w.heap.size 9 1 (.slice A l.length c) l.length (scells l) ∧ Below w.heap.size w w'

set_option maxRecDepth 100000 in
set_option maxHeartbeats 1000000 in
theorem concat2 (g : Nat) (A B : Option Addr) (c d : Nat) (ss tt : List Bytes) (w : World) (hk : (ss.length + tt.length) * 16 ≤ 281474976710656)
    (h0 : w.cell? ⟨g, 0, none⟩ = some (.slice A ss.length c)) (h1 : w.cell? ⟨g, 1, none⟩ = some (.slice B tt.length d)) (hA : Row w A (scells ss)) (hB : Row w B (scells tt)) :
    Calls Try.prog 9 #[.slice (some ⟨g, 0, none⟩) 2 2] w (Joined (ss ++ tt) w) := by
  go_enter Try.func9, Try.ntmps9
  go_wp2_with fail
  refine wp_loop_rounds 3 ?_
  rw [rounds_succ]
  go_wp2_with fail
  rw [rounds_succ]
  go_wp2_with fail
  rw [rounds_succ]
  go_wp2_with fail
  rw [show ((ss.length : Int) + (tt.length : Int)) = ((ss.length + tt.length : Nat) : Int) from by omega]
  refine (grow_nil (ss.length + tt.length) _ hk).mono ?_
  rintro e w1 ⟨v, A1, c1, rfl, rfl, hown1, hc1, hb1⟩
  have g0 := (hb1.cell (World.block_lt_of_cell? _ _ h0)).trans h0
  have g1 := (hb1.cell (World.block_lt_of_cell? _ _ h1)).trans h1
  have hA1 := hA.below hb1
  have hB1 := hB.below hb1
  go_wp2_with fail
  refine wp_loop_rounds 3 ?_
  rw [rounds_succ]
  go_wp2_with (at_builtin; refine app_room w1 rfl _ _ rfl w.heap.size A1 A c1 c [] ss rfl hown1 rfl hA1 (by simp; omega) ?_; intro w2 hown2 hg2)
  have hb2 : Below w.heap.size w w2 := hb1.grown hg2 hb1.size (fun k hk' => (hown1.lt k hk').1)
  simp only [List.nil_append] at hown2
  clear g0 g1 hA1 hB1
  have g0 := (hb2.cell (World.block_lt_of_cell? _ _ h0)).trans h0
  have g1 := (hb2.cell (World.block_lt_of_cell? _ _ h1)).trans h1
  have hB2 := hB.below hb2
  rw [rounds_succ]
  go_wp2_with (at_builtin; refine app_room w2 rfl _ _ rfl w.heap.size A1 B c1 d ss tt rfl hown2 rfl hB2 hc1 ?_; intro w3 hown3 hg3)
  have hb3 : Below w.heap.size w w3 := hb2.grown hg3 hb2.size (fun k hk' => (hown2.lt k hk').1)
  rw [rounds_succ]
  go_wp2
  go_ret
  exact ⟨A1, c1, by rw [List.length_append]; rfl, hown3, hb3⟩
end Go.Proofs.Yteclnibbgdbjfaa
