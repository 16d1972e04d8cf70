/- The reference: ProofSaid returns the preimages along the path of a proof, ProofRoot the hash of the last one. They write nothing that was there. -/
import Derived.Test.YteclnibbgdbjfaaRefProof
import Derived.Test.YteclnibbgdbjfaaRefOrder
import Derived.Test.YteclnibbgdbjfaaRefLeaf
namespace Go.Proofs.Yteclnibbgdbjfaa
set_option maxRecDepth 100000
open Go.RowKit

theorem leafBytes_lim (l : List Ent) (hl : ∀ x ∈ l, x.1.length + x.2.length ≤ 596) : (leafBytes l).length ≤ l.length * 600 := by
  induction l with
  | nil => simp [leafBytes]
  | cons x l ih =>
    have := ih fun y hy => hl y (List.mem_cons_of_mem _ hy)
    have h1 := hl x List.mem_cons_self
    have e : leafBytes (x :: l) = Wire.enc [x.1, x.2] ++ leafBytes l := by simp [leafBytes]
    rw [e, List.length_append, Wire.enc_length, List.length_cons]
    simp only [Wire.encLen_cons, Wire.encLen_nil]
    omega
theorem nodeOf_lim (a b : Nat) : (nodeOf a b).length ≤ 17 := by
  unfold nodeOf
  split
  · simp
  · simp [said, be8]
theorem climb_le (n : Bytes) (es : List Ent) (ss : List Nat) (hm : es.length ≤ 1000) (hes : ∀ x ∈ es, x.1.length + x.2.length ≤ 596) (i : Nat) : (climb n es ss i).length ≤ maxLen := by
  unfold maxLen
  cases i with
  | zero =>
    have := leafBytes_lim es hes
    rw [climb, leafOf]
    split
    · simp
    · rw [List.length_cons]; omega
  | succ i =>
    rw [climb, up]
    split
    · have := nodeOf_lim (Hash.of (climb n es ss i)) (ss[i]?.getD 0); omega
    · have := nodeOf_lim (ss[i]?.getD 0) (Hash.of (climb n es ss i)); omega
theorem Row.str1 {w : World} {A : Option Addr} {ss : List Bytes} (h : Row w A (scells ss)) (k : Nat) (s : Bytes) (hk : ss[k]? = some s) : ∃ g off, A = some ⟨g, off, none⟩ ∧ w.cell? ⟨g, off + k, none⟩ = some (.string (S s)) := by
  obtain ⟨hl, e⟩ := List.getElem?_eq_some_iff.1 hk
  obtain ⟨g, off, e1, hc⟩ := h (by rw [scells_length]; omega)
  refine ⟨g, off, e1, ?_⟩
  rw [hc k (by rw [scells_length]; exact hl)]
  simp [scells, e]
theorem PBox.grown {w w' : World} {g : Nat} {n : Bytes} {A B : Option Addr} {k c m d : Nat} {row : Option Nat} (h : PBox w g n A k c B m d) (hg : w.grownBy w' row) (hne : some g ≠ row) : PBox w' g n A k c B m d :=
  ⟨(hg.cell_far _ (World.block_lt_of_cell? _ _ h.p0) hne).trans h.p0, (hg.cell_far _ (World.block_lt_of_cell? _ _ h.p1) hne).trans h.p1, (hg.cell_far _ (World.block_lt_of_cell? _ _ h.p2) hne).trans h.p2⟩
theorem own_one (w : World) (base : Nat) (hb : base ≤ w.heap.size) (s : Bytes) : (w.alloc (.cells #[.string (S s)] 9)).ownsRow base 9 1 (.slice (some ⟨w.heap.size, 0, none⟩) 1 1) 1 (scells [s]) :=
  ⟨rfl, .inr ⟨w.heap.size, 1, _, rfl, hb, heap_alloc_new w _, Nat.le_refl _, by decide, rfl, rfl⟩⟩
theorem psaid_front (n : Bytes) (es : List Ent) (ss : List Nat) (k : Nat) : (List.range (k + 1 + 1)).map (climb n es ss) = (List.range (k + 1)).map (climb n es ss) ++ [climb n es ss (k + 1)] := by
  rw [List.range_succ, List.map_append]
  rfl

set_option maxRecDepth 100000 in
set_option maxHeartbeats 2000000 in
theorem refPSaid (n : Bytes) (es : List Ent) (ss : List Nat) (A B : Option Addr) (c d : Nat) (w : World) (hn : n.length ≤ maxLen) (hm : es.length ≤ 1000) (hes : ∀ x ∈ es, x.1.length + x.2.length ≤ 596) (h16 : ss.length = 16) (hlow : lowM ss = true) (hA : Row w A (encells es)) (hB : Row w B (mcells ss)) :
    Calls Try.prog 13 #[.agg #[.string (S n), .slice A es.length c, .slice B ss.length d]] w (ListGives (psaid n es ss) w) := by
  have hx0 := PBox.new w n A B es.length c ss.length d 26
  have hL := fun (w : World) hA => Lib.hid (refLeaf A c es w hm hes hA)
  have hP := fun w => Lib.hid (refPath n w hn)
  have HC : Hid (∀ i, (climb n es ss i).length ≤ maxLen) := climb_le n es ss hm hes
  have hol := Bin.of_length n
  have HU : ∀ i, Hid (climb n es ss (i + 1) = if (Bin.of n)[15 - i]? = some 48 then nodeOf (Hash.of (climb n es ss i)) (ss[i]?.getD 0) else nodeOf (ss[i]?.getD 0) (Hash.of (climb n es ss i))) := fun i => rfl
  have HT : Hid (psaid n es ss = (List.range (16 + 1)).map (climb n es ss)) := rfl
  have HF : ∀ k, Hid ((List.range (k + 1 + 1)).map (climb n es ss) = (List.range (k + 1)).map (climb n es ss) ++ [climb n es ss (k + 1)]) := fun k => psaid_front n es ss k
  have H0 : Hid ((List.range (0 + 1)).map (climb n es ss) = [climb n es ss 0]) := rfl
  have HG : ∀ k, Hid (((List.range (k + 1)).map (climb n es ss))[k]? = some (climb n es ss k)) := fun k => by
    show _ = _
    rw [List.getElem?_map, List.getElem?_range (by omega)]
    rfl
  have HLn : ∀ k, Hid (((List.range (k + 1)).map (climb n es ss)).length = k + 1) := fun k => by show _ = _; rw [List.length_map, List.length_range]
  have HZ : Hid (∀ i (h : i < ss.length), ss[i] < 2305843009213693951) := fun i h => lowM_get hlow i h
  rw [show leafOf es = climb n es ss 0 from rfl] at hL
  rw [h16] at hx0 ⊢
  have H16 := Lib.hid h16
  clear h16
  generalize hcl : climb n es ss = cl at *
  generalize psaid n es ss = T at *
  generalize Bin.of n = pn at *
  clear hes hlow hm hn
  obtain ⟨k0, k1, k2⟩ := hx0
  go_enter Try.func13, Try.ntmps13
  go_wp2_with fail
  refine (hL _ (hA.alloc _)).out.mono ?_
  rintro e w1 ⟨rfl, hb1⟩
  have hx1 := (PBox.mk k0 k1 k2).below hb1
  have hb01 : Below w.heap.size w w1 := below_chain ((Below.refl _ _).alloc (Nat.le_refl _) _) hb1
  have hs1 : w.heap.size + 1 ≤ w1.heap.size := by have := hb1.size; simpa using this
  have hx2 := hx1.alloc (.cells #[.string (S (cl 0))] 9)
  have hown2 := own_one w1 (w.heap.size + 1) hs1 (cl 0)
  have hb02 : Below w.heap.size w (w1.alloc (.cells #[.string (S (cl 0))] 9)) := hb01.alloc hb01.size _
  clear k0 k1 k2 hL hb1 hx1
  obtain ⟨k0, k1, k2⟩ := hx2
  go_wp2_with fail
  refine (hP _).out.mono ?_
  rintro e w2 ⟨rfl, hw2⟩
  rw [hw2] at k0 k1 k2 hown2 hb02
  clear hw2 hP hb01
  go_wp2
  go_loopw [3, 14] (fun v i wr => ∃ k : Nat, k ≤ 16 ∧ i = .int .i64 k ∧ wr.ownsRow (w.heap.size + 1) 9 1 v (k + 1) (scells ((List.range (k + 1)).map cl)) ∧ PBox wr w.heap.size n A es.length c B 16 d ∧ Below w.heap.size w wr) (fun _ i _ => 16 - (intOf i).toNat)
  case atStart => exact ⟨0, Nat.zero_le _, rfl, by rw [H0.out]; exact hown2, ⟨k0, k1, k2⟩, hb02⟩
  case round =>
    obtain ⟨k, hk, rfl, hown, hx, hbl⟩ := hrel
    have hsz := hbl.size
    clear k0 k1 k2 hown2 hb02
    obtain ⟨D, e0, rfl⟩ := own_shape hown
    by_cases hlt : k < 16
    · obtain ⟨g, off, hDe, h1⟩ := (Row.own hown).str1 k _ (HG k).out
      have hBr := hB.below hbl
      obtain ⟨g3, off3, hBe, h3⟩ := hBr.mark k (by rw [H16.out]; exact hlt)
      have hi0 : (0 : Int) ≤ (k : Int) := by omega
      have hi1 : (k : Int) < (k : Int) + 1 := by omega
      have hi2 : (k : Int) < 16 := by omega
      have hj0 : (0 : Int) ≤ 15 - (k : Int) := by omega
      have hj1 : (15 - (k : Int)) < (pn.length : Int) := by omega
      have hj2 : (15 - (k : Int)).toNat = 15 - k := by omega
      have hpl : 15 - k < pn.length := by omega
      have hMk := fun w => Lib.hid (refMark (cl k) w (HC.out k))
      have hz := HZ.out k (by rw [H16.out]; exact hlt)
      have hzl : ss[k]'(by rw [H16.out]; exact hlt) < 18446744073709551616 := Nat.lt_trans hz (by decide)
      have hml : Hash.of (cl k) < 18446744073709551616 := Nat.lt_trans (Hash.of_lt _) (by decide)
      have hN0 := fun w => Lib.hid (refNode _ _ w hml hzl)
      have hN1 := fun w => Lib.hid (refNode _ _ w hzl hml)
      have hu := (HU k).out
      rw [List.getElem?_eq_getElem (show k < ss.length by rw [H16.out]; exact hlt), Option.getD_some, List.getElem?_eq_getElem hpl] at hu
      have HFk := HF k
      have hLk := HLn k
      generalize cl (k + 1) = s2 at *
      generalize hQ : (List.range (k + 1)).map cl = qs at *
      generalize hQ2 : (List.range (k + 1 + 1)).map cl = qs2 at *
      generalize ss[k]'(by rw [H16.out]; exact hlt) = z at *
      generalize Hash.of (cl k) = m at *
      generalize cl k = s1 at *
      have hs1' : w.heap.size + 1 ≤ wr.heap.size := by have := World.block_lt_of_cell? _ _ hx.p0; exact this
      clear HC HU HT HF H0 HG HLn HZ hA hB hBr hz hzl hml hcl
      subst hDe; subst hBe
      by_cases hc : pn[15 - k] = 48
      · have c1 : ((pn[15 - k].toNat : Int) == 48) = true := by rw [hc]; rfl
        have HS2 : Hid (s2 = nodeOf m z) := by
          show s2 = _
          rw [hu, if_pos (by rw [hc])]
        clear hu hc
        rw [← HS2.out] at hN0
        clear HS2
        obtain ⟨k0, k1, k2⟩ := hx
        go_wp2_with fail
        refine (hMk _).out.mono ?_
        rintro e _ ⟨rfl, rfl⟩
        go_wp2_with fail
        refine (hN0 _).out.mono ?_
        rintro e w5 ⟨rfl, hb5⟩
        have hx5 := (PBox.mk k0 k1 k2).below hb5
        have hown5 := own_below hown hb5
        have hb05 := below_chain hbl hb5
        have hs5 := hb5.size
        clear k0 k1 k2 h1 h3
        rw [← hLk.out] at hown5
        go_wp2_with (at_builtin; refine app_strs _ rfl _ _ rfl (w.heap.size + 1) _ qs (by rw [hLk.out]; rfl) (hown5.alloc _) ⟨w5.heap.size, 0, none⟩ 1 [s2] 1 rfl rfl (str_one w5 s2 _) (by rw [hLk.out]; simp; omega) (by simp; omega) ?_; intro v6 w6 hown6 hgrow6)
        have hx6 := (hx5.alloc (.cells #[.string (S s2)] 9)).grown hgrow6 (fun e => by have := (hown5.lt _ e.symm).1; omega)
        have hb6 : Below w.heap.size w w6 := (hb05.alloc hb05.size (.cells #[.string (S s2)] 9)).grown hgrow6 (by simp; omega) (fun k hk' => by have := (hown5.lt k hk').1; omega)
        rw [List.length_append, hLk.out, ← HFk.out] at hown6
        go_roundw
        case rel => exact ⟨k + 1, by omega, by go_num, by rw [hQ2]; exact hown6, hx6, hb6⟩
        case measure => simp [intOf]; omega
      · have c1 : ((pn[15 - k].toNat : Int) == 48) = false := by rw [beq_eq_false_iff_ne]; intro e; exact hc (UInt8.toNat_inj.1 (show pn[15 - k].toNat = 48 by omega))
        have HS2 : Hid (s2 = nodeOf z m) := by
          show s2 = _
          rw [hu, if_neg (fun e => hc (by injection e))]
        clear hu hc
        rw [← HS2.out] at hN1
        clear HS2
        obtain ⟨k0, k1, k2⟩ := hx
        go_wp2_with fail
        refine (hMk _).out.mono ?_
        rintro e _ ⟨rfl, rfl⟩
        go_wp2_with fail
        refine (hN1 _).out.mono ?_
        rintro e w5 ⟨rfl, hb5⟩
        have hx5 := (PBox.mk k0 k1 k2).below hb5
        have hown5 := own_below hown hb5
        have hb05 := below_chain hbl hb5
        have hs5 := hb5.size
        clear k0 k1 k2 h1 h3
        rw [← hLk.out] at hown5
        go_wp2_with (at_builtin; refine app_strs _ rfl _ _ rfl (w.heap.size + 1) _ qs (by rw [hLk.out]; rfl) (hown5.alloc _) ⟨w5.heap.size, 0, none⟩ 1 [s2] 1 rfl rfl (str_one w5 s2 _) (by rw [hLk.out]; simp; omega) (by simp; omega) ?_; intro v6 w6 hown6 hgrow6)
        have hx6 := (hx5.alloc (.cells #[.string (S s2)] 9)).grown hgrow6 (fun e => by have := (hown5.lt _ e.symm).1; omega)
        have hb6 : Below w.heap.size w w6 := (hb05.alloc hb05.size (.cells #[.string (S s2)] 9)).grown hgrow6 (by simp; omega) (fun k hk' => by have := (hown5.lt k hk').1; omega)
        rw [List.length_append, hLk.out, ← HFk.out] at hown6
        go_roundw
        case rel => exact ⟨k + 1, by omega, by go_num, by rw [hQ2]; exact hown6, hx6, hb6⟩
        case measure => simp [intOf]; omega
    · obtain rfl : k = 16 := by omega
      go_wp2
      go_ret
      refine ⟨D, e0, ?_, ?_, hbl⟩
      · rw [HT.out, (HLn 16).out]; rfl
      · rw [HT.out]; exact Row.own hown
end Go.Proofs.Yteclnibbgdbjfaa
