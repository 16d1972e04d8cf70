/- package proof: Make returns the proof of a book for a name. It writes nothing that was there. -/
import Derived.Test.YtmmmolbejfdamaaProofPath
import Derived.Test.YtmmmolbejfdamaaMapS
import Derived.Test.YtmmmolbejfdamaaTreeCheck
import Derived.Test.YtmmmolbejfdamaaTreeSet
namespace Go.Proofs.Ytmmmolbejfdamaa
set_option maxRecDepth 100000
open Go.RowKit

/-- What Make leaves. -/
def MakeGives (n : Bytes) (L : List Ent) (M : List Nat) (w : World) (e : Ending) (w' : World) : Prop :=
  ∃ A c B d, e = .returned (.tuple #[.agg #[.string (S n), .slice A L.length c, .slice B M.length d], .int .i64 0]) ∧ L.length ≤ c ∧ Row w' A (encells L) ∧ Row w' B (mcells M) ∧ Below w.heap.size w w'

/-- The same, and what lies behind the entries. -/
def MakeGivesS (n : Bytes) (L : List Ent) (M : List Nat) (w : World) (e : Ending) (w' : World) : Prop :=
  ∃ A c B d, e = .returned (.tuple #[.agg #[.string (S n), .slice A L.length c, .slice B M.length d], .int .i64 0]) ∧ ownsS w' w.heap.size (.slice A L.length c) L ∧ Row w' B (mcells M) ∧ Below w.heap.size w w'
theorem MakeGivesS.make {n : Bytes} {L : List Ent} {M : List Nat} {w : World} {e : Ending} {w' : World} (h : MakeGivesS n L M w e w') : MakeGives n L M w e w' := by
  obtain ⟨A, c, B, d, h1, h2, h3, h4⟩ := h
  exact ⟨A, c, B, d, h1, own_capE h2.row, Row.ownE h2.row, h3, h4⟩

set_option maxHeartbeats 1000000 in
theorem proofMake_no (A : Option Addr) (c : Nat) (es : List Ent) (n : Bytes) (w : World) (hm : es.length ≤ maxLen) (hes : ∀ x ∈ es, x.1.length ≤ maxLen ∧ x.2.length ≤ maxLen) (hn : n.length ≤ maxLen) (hA : Row w A (encells es)) (r : Int) (hr : askErr es n = r) (h0 : r ≠ 0) :
    Calls Try.prog 24 #[.slice A es.length c, .string (S n)] w fun e w' => e = .returned (.tuple #[.agg #[.string ⟨#[]⟩, .slice none 0 0, .slice none 0 0], .int .i64 r]) ∧ Below w.heap.size w w' := by
  have hC := fun (w : World) hA => Lib.hid (treeCheck A c es w hm hes hA _ rfl)
  have hz0 := OBox.new w (.string ⟨#[]⟩) (.slice none 0 0) (.slice none 0 0) 53
  have c1 : (r == 0) = false := beq_eq_false_iff_ne.2 h0
  by_cases hf : fault es = 0
  · rw [askErr, if_pos hf] at hr
    rw [hf] at hC
    cases hnm : Bin.name n with
    | true => rw [hnm, if_pos rfl] at hr; exact absurd hr.symm h0
    | false =>
      rw [hnm, if_neg (by simp)] at hr
      have hP := fun w => Lib.hid (pathOf_no n w hn hnm)
      subst hr
      clear hf hnm h0 hm hes hn c1
      go_enter Try.func24, Try.ntmps24
      go_wp2_with fail
      refine (hC _ (hA.alloc _)).out.mono ?_
      rintro e w1 ⟨rfl, hb1⟩
      have hz1 := hz0.below hb1
      have hb01 : Below w.heap.size w w1 := below_chain ((Below.refl _ _).alloc (Nat.le_refl _) _) hb1
      go_wp2_with fail
      refine (hP _).out.mono ?_
      rintro e w2 ⟨rfl, rfl⟩
      clear hz0 hb1 hC hP
      have hzz := hz1
      obtain ⟨z0, z1, z2, e0, e1, e2⟩ := hz1
      go_wp2
      have hz9 := ((hzz.set0 (.string ⟨#[]⟩)).set1 (.slice none 0 0)).set2 (.slice none 0 0)
      have hb9 := ((hb01.setCell (p := ⟨w.heap.size, 0, none⟩) (Nat.le_refl _) (.string ⟨#[]⟩)).setCell (p := ⟨w.heap.size, 1, none⟩) (Nat.le_refl _) (.slice none 0 0)).setCell (p := ⟨w.heap.size, 2, none⟩) (Nat.le_refl _) (.slice none 0 0)
      generalize (((w1.setCell ⟨w.heap.size, 0, none⟩ (.string ⟨#[]⟩)).setCell ⟨w.heap.size, 1, none⟩ (.slice none 0 0)).setCell ⟨w.heap.size, 2, none⟩ (.slice none 0 0)) = w9 at *
      have r0 := hz9.o0
      have r1 := hz9.o1
      have r2 := hz9.o2
      refine bodyPost_ret (v := .tuple #[.agg #[.string ⟨#[]⟩, .slice none 0 0, .slice none 0 0], .int .i64 3]) ?_ rfl ⟨rfl, hb9⟩
      rw [results_cell_tmp rfl]
      go_simp
  · rw [askErr, if_neg hf] at hr
    rw [hr] at hC
    clear hf hr h0 hm hes hn
    go_enter Try.func24, Try.ntmps24
    go_wp2_with fail
    refine (hC _ (hA.alloc _)).out.mono ?_
    rintro e w1 ⟨rfl, hb1⟩
    have hz1 := hz0.below hb1
    have hb01 : Below w.heap.size w w1 := below_chain ((Below.refl _ _).alloc (Nat.le_refl _) _) hb1
    clear hz0 hb1 hC
    have hzz := hz1
    obtain ⟨z0, z1, z2, e0, e1, e2⟩ := hz1
    go_wp2
    have hz9 := ((hzz.set0 (.string ⟨#[]⟩)).set1 (.slice none 0 0)).set2 (.slice none 0 0)
    have hb9 := ((hb01.setCell (p := ⟨w.heap.size, 0, none⟩) (Nat.le_refl _) (.string ⟨#[]⟩)).setCell (p := ⟨w.heap.size, 1, none⟩) (Nat.le_refl _) (.slice none 0 0)).setCell (p := ⟨w.heap.size, 2, none⟩) (Nat.le_refl _) (.slice none 0 0)
    generalize (((w1.setCell ⟨w.heap.size, 0, none⟩ (.string ⟨#[]⟩)).setCell ⟨w.heap.size, 1, none⟩ (.slice none 0 0)).setCell ⟨w.heap.size, 2, none⟩ (.slice none 0 0)) = w9 at *
    have r0 := hz9.o0
    have r1 := hz9.o1
    have r2 := hz9.o2
    refine bodyPost_ret (v := .tuple #[.agg #[.string ⟨#[]⟩, .slice none 0 0, .slice none 0 0], .int .i64 r]) ?_ rfl ⟨rfl, hb9⟩
    rw [results_cell_tmp rfl]
    go_simp

set_option maxHeartbeats 1000000 in
theorem proofMake_yesS (A : Option Addr) (c : Nat) (es : List Ent) (n : Bytes) (w : World) (hg : Good es) (hn : Bin.name n = true) (hA : Row w A (encells es)) :
    Calls Try.prog 24 #[.slice A es.length c, .string (S n)] w (MakeGivesS n (at16 es (Bin.of n)) (sidesOf es n) w) := by
  obtain ⟨hm, hes⟩ := small_of_good hg
  have hC := fun (w : World) hA => Lib.hid (treeCheck A c es w hm hes hA _ ((fault_ok es).2 hg))
  have hP := fun w => Lib.hid (pathOf_yes n w hn)
  have hl := hg.len
  have hO := fun (w : World) hA => Lib.hid (onPath A c es (Bin.of n) w (by omega) hg.name hA)
  have hS := fun (w : World) hA => Lib.hid (siblings A c es n w hg hA)
  have hz0 := OBox.new w (.string ⟨#[]⟩) (.slice none 0 0) (.slice none 0 0) 53
  generalize at16 es (Bin.of n) = L at *
  generalize sidesOf es n = M at *
  generalize Bin.of n = pn at *
  clear hg hn hm hes hl
  go_enter Try.func24, Try.ntmps24
  go_wp2_with fail
  refine (hC _ (hA.alloc _)).out.mono ?_
  rintro e w1 ⟨rfl, hb1⟩
  have hz1 := hz0.below hb1
  have hb01 : Below w.heap.size w w1 := below_chain ((Below.refl _ _).alloc (Nat.le_refl _) _) hb1
  clear hz0 hb1 hC
  go_wp2_with fail
  refine (hP _).out.mono ?_
  rintro e w2 ⟨rfl, hb2⟩
  have hz2 := hz1.below hb2
  have hb02 := below_chain hb01 hb2
  clear hz1 hb01 hb2 hP
  go_wp2_with fail
  refine (hO _ (hA.below hb02)).out.mono ?_
  rintro e w3 ⟨v3, rfl, hown3, hb3⟩
  obtain ⟨D3, d3, rfl⟩ := hown3.shape
  have hz3 := hz2.below hb3
  have hb03 := below_chain hb02 hb3
  have hs2 : w.heap.size + 1 ≤ w2.heap.size := World.block_lt_of_cell? _ _ hz2.o0
  have hs3 : w.heap.size + 1 ≤ w3.heap.size := World.block_lt_of_cell? _ _ hz3.o0
  clear hz2 hb02 hb3 hO
  go_wp2_with fail
  refine (hS _ (hA.below hb03)).out.mono ?_
  rintro e w4 ⟨v4, rfl, hown4, hb4⟩
  obtain ⟨D4, d4, rfl⟩ := own_shape hown4
  have hzz := hz3.below hb4
  have hown3' := hown3.below hb4
  have hb04 := below_chain hb03 hb4
  clear hz3 hb03 hb4 hS hA hown3
  have hz9 := ((hzz.set0 (.string (S n))).set1 (.slice D3 L.length d3)).set2 (.slice D4 M.length d4)
  have hb9 := ((hb04.setCell (p := ⟨w.heap.size, 0, none⟩) (Nat.le_refl _) (.string (S n))).setCell (p := ⟨w.heap.size, 1, none⟩) (Nat.le_refl _) (.slice D3 L.length d3)).setCell (p := ⟨w.heap.size, 2, none⟩) (Nat.le_refl _) (.slice D4 M.length d4)
  have hg9 := ((grown_set w4 ⟨w.heap.size, 0, none⟩ (.string (S n))).trans (grown_set _ ⟨w.heap.size, 1, none⟩ (.slice D3 L.length d3))).trans (grown_set _ ⟨w.heap.size, 2, none⟩ (.slice D4 M.length d4))
  have hrA := (hown3'.kept hg9 (.inr fun e => absurd (hown3'.lt _ e).1 (by show ¬ w2.heap.size ≤ w.heap.size; omega))).mono (b' := w.heap.size) (by omega)
  have hrB := Row.own (hown4.kept hg9 (.inr fun e => absurd (hown4.lt _ e).1 (by show ¬ w3.heap.size ≤ w.heap.size; omega)))
  obtain ⟨z0, z1, z2, e0, e1, e2⟩ := hzz
  clear hown3' hown4 hg9
  go_wp2
  generalize (((w4.setCell ⟨w.heap.size, 0, none⟩ (.string (S n))).setCell ⟨w.heap.size, 1, none⟩ (.slice D3 L.length d3)).setCell ⟨w.heap.size, 2, none⟩ (.slice D4 M.length d4)) = w9 at *
  have r0 := hz9.o0
  have r1 := hz9.o1
  have r2 := hz9.o2
  refine bodyPost_ret (v := .tuple #[.agg #[.string (S n), .slice D3 L.length d3, .slice D4 M.length d4], .int .i64 0]) ?_ rfl ⟨D3, d3, D4, d4, rfl, hrA, hrB, hb9⟩
  rw [results_cell_tmp rfl]
  go_simp
theorem proofMake_yes (A : Option Addr) (c : Nat) (es : List Ent) (n : Bytes) (w : World) (hg : Good es) (hn : Bin.name n = true) (hA : Row w A (encells es)) :
    Calls Try.prog 24 #[.slice A es.length c, .string (S n)] w (MakeGives n (at16 es (Bin.of n)) (sidesOf es n) w) := (proofMake_yesS A c es n w hg hn hA).mono fun _ _ k => k.make
end Go.Proofs.Ytmmmolbejfdamaa
