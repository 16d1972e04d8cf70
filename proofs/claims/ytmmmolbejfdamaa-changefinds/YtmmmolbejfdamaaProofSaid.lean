/- package proof: above returns the preimage that combines two hashes, Said the preimages along the path of a proof. They write nothing that was there. -/
import Derived.Test.YtmmmolbejfdamaaProofRight
import Derived.Test.YtmmmolbejfdamaaRefPSaid
import Derived.Test.YtmmmolbejfdamaaTreeLeafs
namespace Go.Proofs.Ytmmmolbejfdamaa
set_option maxRecDepth 100000
open Go.RowKit

set_option maxHeartbeats 800000 in
theorem above (a b : Nat) (w : World) (ha : a < 18446744073709551616) (hb : b < 18446744073709551616) (s : Bytes) (hs : nodeOf a b = s) :
    Calls Try.prog 73 #[.int .u64 (a : Int), .int .u64 (b : Int)] w fun e w' => e = .returned (.string (S s)) ∧ Below w.heap.size w w' := by
  have hL := fun w => Lib.hid (treeLeaf_nil none 0 w)
  have hM : ∀ w, Hid (Calls Try.prog 68 #[.string (S [0])] w fun e w' => e = .returned (.int .u64 (nil0 : Int)) ∧ ∃ m, w' = w.drewN m) := fun w => markOf_0 w
  have hS : ∀ w, Hid (Calls Try.prog 89 #[.int .u8 2, .int .u64 (a : Int), .int .u64 (b : Int)] w fun e w' => e = .returned (.string (S (said 2 a b))) ∧ Below w.heap.size w w') := fun w => markSaid 2 a b w ha hb
  unfold nodeOf at hs
  generalize said 2 a b = t at *
  generalize nil0 = z at *
  clear ha hb
  by_cases h1 : a = z
  · have c1 : ((a : Int) == (z : Int)) = true := beq_iff_eq.2 (by omega)
    by_cases h2 : b = z
    · have c2 : ((b : Int) == (z : Int)) = true := beq_iff_eq.2 (by omega)
      rw [if_pos ⟨h1, h2⟩] at hs
      have HS := Lib.hid hs
      clear hs h1 h2
      go_enter Try.func73, Try.ntmps73
      go_wp2_with fail
      refine (hL _).out.mono ?_
      rintro e w1 ⟨rfl, hb1⟩
      go_wp2_with fail
      refine (hM _).out.mono ?_
      rintro e w2 ⟨rfl, m, rfl⟩
      go_wp2
      go_ret
      exact ⟨by rw [← HS.out]; rfl, below_drewN hb1 _⟩
    · have c2 : ((b : Int) == (z : Int)) = false := beq_eq_false_iff_ne.2 (by omega)
      rw [if_neg (fun e => h2 e.2)] at hs
      rw [hs] at hS
      clear hs h1 h2
      go_enter Try.func73, Try.ntmps73
      go_wp2_with fail
      refine (hL _).out.mono ?_
      rintro e w1 ⟨rfl, hb1⟩
      go_wp2_with fail
      refine (hM _).out.mono ?_
      rintro e w2 ⟨rfl, m, rfl⟩
      go_wp2_with fail
      refine (hS _).out.mono ?_
      rintro e w3 ⟨rfl, hb3⟩
      go_wp2
      go_ret
      exact ⟨rfl, below_chain (below_drewN hb1 _) hb3⟩
  · have c1 : ((a : Int) == (z : Int)) = false := beq_eq_false_iff_ne.2 (by omega)
    rw [if_neg (fun e => h1 e.1)] at hs
    rw [hs] at hS
    clear hs h1
    go_enter Try.func73, Try.ntmps73
    go_wp2_with fail
    refine (hL _).out.mono ?_
    rintro e w1 ⟨rfl, hb1⟩
    go_wp2_with fail
    refine (hM _).out.mono ?_
    rintro e w2 ⟨rfl, m, rfl⟩
    go_wp2_with fail
    refine (hS _).out.mono ?_
    rintro e w3 ⟨rfl, hb3⟩
    go_wp2
    go_ret
    exact ⟨rfl, below_chain (below_drewN hb1 _) hb3⟩

set_option maxHeartbeats 400000 in
theorem proofSaid_no (n : Bytes) (es : List Ent) (ss : List Nat) (A B : Option Addr) (c d : Nat) (w : World) (hn : n.length ≤ maxLen) (hm : es.length ≤ maxLen) (hes : ∀ x ∈ es, x.1.length ≤ maxLen ∧ x.2.length ≤ maxLen) (hsm : ss.length ≤ maxLen) (hA : Row w A (encells es)) (hB : Row w B (mcells ss)) (r : Int) (hr : pfault n es ss = r) (h0 : r ≠ 0) :
    Calls Try.prog 50 #[.agg #[.string (S n), .slice A es.length c, .slice B ss.length d]] w fun e w' => e = .returned (.tuple #[.slice none 0 0, .int .i64 r]) ∧ Below w.heap.size w w' := by
  have hR := fun (w : World) hA hB => Lib.hid (proofRight n es ss A B c d w hn hm hes hsm hA hB r hr)
  have c1 : (r == 0) = false := beq_eq_false_iff_ne.2 h0
  obtain ⟨k0, k1, k2⟩ := PBox.new w n A B es.length c ss.length d 53
  clear hn hm hes hsm hr h0
  go_enter Try.func50, Try.ntmps50
  go_wp2_with fail
  refine (hR _ (hA.alloc _) (hB.alloc _)).out.mono ?_
  rintro e w1 ⟨rfl, hb1⟩
  go_wp2
  go_ret2
  exact ⟨rfl, below_chain ((Below.refl _ _).alloc (Nat.le_refl _) _) hb1⟩

/-- What Said leaves: the preimages and OK. -/
def SaidGives (T : List Bytes) (w : World) (e : Ending) (w' : World) : Prop :=
  ∃ D d, e = .returned (.tuple #[.slice D T.length d, .int .i64 0]) ∧ Row w' D (scells T) ∧ Below w.heap.size w w'
theorem way_one {n : Bytes} {es : List Ent} (h : sameWay n es = true) : onePath es = true := by
  unfold sameWay at h
  have h := List.all_eq_true.1 h
  cases es with
  | nil => rfl
  | cons x es =>
    unfold onePath
    refine List.all_eq_true.2 fun y hy => ?_
    have h1 := beq_iff_eq.1 (h x List.mem_cons_self)
    have h2 := beq_iff_eq.1 (h y (List.mem_cons_of_mem _ hy))
    rw [h1, h2, beq_self_eq_true]

set_option maxHeartbeats 2000000 in
theorem proofSaid_yes (n : Bytes) (es : List Ent) (ss : List Nat) (A B : Option Addr) (c d : Nat) (w : World) (hp : PGood n es ss) (hA : Row w A (encells es)) (hB : Row w B (mcells ss)) :
    Calls Try.prog 50 #[.agg #[.string (S n), .slice A es.length c, .slice B ss.length d]] w (SaidGives (psaid n es ss) w) := by
  have hx0 := PBox.new w n A B es.length c ss.length d 53
  have hnn := hp.name
  have hg := hp.book
  have h16 := hp.len
  have hlow := hp.low
  obtain ⟨hm, hes⟩ := small_of_good hg
  have hnl : n.length ≤ maxLen := by have := Bin.name_len hnn; unfold maxLen; omega
  have hR := fun (w : World) hA hB => Lib.hid (proofRight n es ss A B c d w hnl hm hes (by rw [h16]; unfold maxLen; omega) hA hB 0 ((pfault_ok _ _ _).2 hp))
  have hL := fun (w : World) hA => Lib.hid (treeLeaf_good A c es w hg hA true (way_one hp.way) (leafOf es) 0 rfl rfl)
  have hP := fun w => Lib.hid (pathOf_yes n w hnn)
  have hm24 := hg.len
  have HC : Hid (∀ i, (climb n es ss i).length ≤ maxLen) := climb_le n es ss (by omega) (good_5 hg)
  have hol := Bin.of_length n
  have HU : ∀ i, Hid (climb n es ss (i + 1) = if (Bin.of n)[15 - i]? = some 48 then nodeOf (Hash.of (climb n es ss i)) (ss[i]?.getD 0) else nodeOf (ss[i]?.getD 0) (Hash.of (climb n es ss i))) := fun i => rfl
  have HT : Hid (psaid n es ss = (List.range (16 + 1)).map (climb n es ss)) := rfl
  have HF : ∀ k, Hid ((List.range (k + 1 + 1)).map (climb n es ss) = (List.range (k + 1)).map (climb n es ss) ++ [climb n es ss (k + 1)]) := fun k => psaid_front n es ss k
  have H0 : Hid ((List.range (0 + 1)).map (climb n es ss) = [climb n es ss 0]) := rfl
  have HLn : ∀ k, Hid (((List.range (k + 1)).map (climb n es ss)).length = k + 1) := fun k => by show _ = _; rw [List.length_map, List.length_range]
  have HZ : Hid (∀ i (h : i < ss.length), ss[i] < 2305843009213693951) := fun i h => lowM_get hlow i h
  rw [show leafOf es = climb n es ss 0 from rfl] at hL
  rw [h16] at hx0 hR ⊢
  have H16 := Lib.hid h16
  clear h16
  generalize hcl : climb n es ss = cl at *
  generalize psaid n es ss = T at *
  generalize Bin.of n = pn at *
  clear hes hlow hm hnl hnn hg hp hm24
  obtain ⟨k0, k1, k2⟩ := hx0
  go_enter Try.func50, Try.ntmps50
  go_wp2_with fail
  refine (hR _ (hA.alloc _) (hB.alloc _)).out.mono ?_
  rintro e w0 ⟨rfl, hb0⟩
  have hx1 := (PBox.mk k0 k1 k2).below hb0
  have hb00 : Below w.heap.size w w0 := below_chain ((Below.refl _ _).alloc (Nat.le_refl _) _) hb0
  clear k0 k1 k2 hR hb0
  obtain ⟨k0, k1, k2⟩ := hx1
  go_wp2_with fail
  refine (hP _).out.mono ?_
  rintro e w1 ⟨rfl, hb1⟩
  have hx1 := (PBox.mk k0 k1 k2).below hb1
  have hb01 := below_chain hb00 hb1
  clear k0 k1 k2 hP hb1 hb00
  obtain ⟨k0, k1, k2⟩ := hx1
  go_wp2_with fail
  refine (hL _ (hA.below hb01)).out.mono ?_
  rintro e w2 ⟨rfl, hb2⟩
  have hx1 := (PBox.mk k0 k1 k2).below hb2
  have hb02 := below_chain hb01 hb2
  clear k0 k1 k2 hL hb2 hb01
  have hs1 : w.heap.size + 1 ≤ w2.heap.size := World.block_lt_of_cell? _ _ hx1.p0
  have hx2 := hx1.alloc (.cells #[.string (S (cl 0))] 9)
  have hown2 := own_one w2 (w.heap.size + 1) hs1 (cl 0)
  have hb03 : Below w.heap.size w (w2.alloc (.cells #[.string (S (cl 0))] 9)) := hb02.alloc hb02.size _
  clear hx1 hb02
  obtain ⟨k0, k1, k2⟩ := hx2
  go_wp2
  go_loopw [7, 9, 35] (fun u v i wr => ∃ k : Nat, k ≤ 16 ∧ u = .string (S (cl k)) ∧ i = .int .i64 k ∧ wr.ownsRow (w.heap.size + 1) 9 1 v (k + 1) (scells ((List.range (k + 1)).map cl)) ∧ PBox wr w.heap.size n A es.length c B 16 d ∧ Below w.heap.size w wr) (fun _ _ i _ => 16 - (intOf i).toNat)
  case atStart => exact ⟨0, Nat.zero_le _, rfl, rfl, by rw [H0.out]; exact hown2, ⟨k0, k1, k2⟩, hb03⟩
  case round =>
    obtain ⟨k, hk, rfl, rfl, hown, hx, hbl⟩ := hrel
    have hsz := hbl.size
    clear k0 k1 k2 hown2 hb03
    obtain ⟨D, e0, rfl⟩ := own_shape hown
    by_cases hlt : k < 16
    · have hBr := hB.below hbl
      obtain ⟨g3, off3, hBe, h3⟩ := hBr.mark k (by rw [H16.out]; exact hlt)
      have hi0 : (0 : Int) ≤ (k : Int) := by omega
      have hi2 : (k : Int) < 16 := by omega
      have hj0 : (0 : Int) ≤ 15 - (k : Int) := by omega
      have hj1 : (15 - (k : Int)) < (pn.length : Int) := by omega
      have hj2 : (15 - (k : Int)).toNat = 15 - k := by omega
      have hpl : 15 - k < pn.length := by omega
      have hMk := fun w => Lib.hid (markOf (cl k) w (HC.out k))
      have hz := HZ.out k (by rw [H16.out]; exact hlt)
      have hzl : ss[k]'(by rw [H16.out]; exact hlt) < 18446744073709551616 := Nat.lt_trans hz (by decide)
      have hml : Hash.of (cl k) < 18446744073709551616 := Nat.lt_trans (Hash.of_lt _) (by decide)
      have hN0 := fun w => Lib.hid (above _ _ w hml hzl _ rfl)
      have hN1 := fun w => Lib.hid (above _ _ w hzl hml _ rfl)
      have hu := (HU k).out
      rw [List.getElem?_eq_getElem (show k < ss.length by rw [H16.out]; exact hlt), Option.getD_some, List.getElem?_eq_getElem hpl] at hu
      have HFk := HF k
      have hLk := HLn k
      generalize hs2 : cl (k + 1) = s2 at *
      have Hs2 := Lib.hid hs2
      clear hs2
      generalize hQ : (List.range (k + 1)).map cl = qs at *
      generalize hQ2 : (List.range (k + 1 + 1)).map cl = qs2 at *
      generalize ss[k]'(by rw [H16.out]; exact hlt) = z at *
      generalize Hash.of (cl k) = m at *
      have HQ2 := Lib.hid hQ2
      clear hQ hQ2
      generalize cl k = s1 at *
      have hs1' : w.heap.size + 1 ≤ wr.heap.size := World.block_lt_of_cell? _ _ hx.p0
      clear HC HU HT HF H0 HLn HZ hA hB hBr hz hzl hml hcl
      subst hBe
      by_cases hc : pn[15 - k] = 48
      · have c1 : ((pn[15 - k].toNat : Int) == 48) = true := by rw [hc]; rfl
        have HS2 : Hid (s2 = nodeOf m z) := by
          show s2 = _
          rw [hu, if_pos (by rw [hc])]
        clear hu hc
        rw [← HS2.out] at hN0
        clear HS2 hN1
        obtain ⟨k0, k1, k2⟩ := hx
        go_wp2_with fail
        refine (hMk _).out.mono ?_
        rintro e _ ⟨rfl, mm, rfl⟩
        have hbm : Below wr.heap.size wr (wr.drewN mm) := below_of_drewN _ _ _
        go_wp2_with fail
        refine (hN0 _).out.mono ?_
        rintro e w5 ⟨rfl, hb50⟩
        have hb5 : Below wr.heap.size wr w5 := below_chain hbm hb50
        have hx5 := (PBox.mk k0 k1 k2).below hb5
        have hown5 := own_below hown hb5
        have hb05 := below_chain hbl hb5
        have hs5 := hb5.size
        clear k0 k1 k2 h3 hb50 hbm
        rw [← hLk.out] at hown5
        go_wp2_with (at_builtin; refine app_strs _ rfl _ _ rfl (w.heap.size + 1) _ qs (by rw [hLk.out]; rfl) (hown5.alloc _) ⟨w5.heap.size, 0, none⟩ 1 [s2] 1 rfl rfl (str_one w5 s2 _) (by rw [hLk.out]; simp; omega) (by simp; omega) ?_; intro v6 w6 hown6 hgrow6)
        have hx6 := (hx5.alloc (.cells #[.string (S s2)] 9)).grown hgrow6 (fun e => by have := (hown5.lt _ e.symm).1; omega)
        have hb6 : Below w.heap.size w w6 := (hb05.alloc hb05.size (.cells #[.string (S s2)] 9)).grown hgrow6 (by simp; omega) (fun k hk' => by have := (hown5.lt k hk').1; omega)
        rw [List.length_append, hLk.out, ← HFk.out] at hown6
        go_roundw
        case rel => exact ⟨k + 1, by omega, by rw [Hs2.out], by go_num, by rw [HQ2.out]; exact hown6, hx6, hb6⟩
        case measure => simp [intOf]; omega
      · have c1 : ((pn[15 - k].toNat : Int) == 48) = false := by rw [beq_eq_false_iff_ne]; intro e; exact hc (UInt8.toNat_inj.1 (show pn[15 - k].toNat = 48 by omega))
        have HS2 : Hid (s2 = nodeOf z m) := by
          show s2 = _
          rw [hu, if_neg (fun e => hc (by injection e))]
        clear hu hc
        rw [← HS2.out] at hN1
        clear HS2 hN0
        obtain ⟨k0, k1, k2⟩ := hx
        go_wp2_with fail
        refine (hMk _).out.mono ?_
        rintro e _ ⟨rfl, mm, rfl⟩
        have hbm : Below wr.heap.size wr (wr.drewN mm) := below_of_drewN _ _ _
        go_wp2_with fail
        refine (hN1 _).out.mono ?_
        rintro e w5 ⟨rfl, hb50⟩
        have hb5 : Below wr.heap.size wr w5 := below_chain hbm hb50
        have hx5 := (PBox.mk k0 k1 k2).below hb5
        have hown5 := own_below hown hb5
        have hb05 := below_chain hbl hb5
        have hs5 := hb5.size
        clear k0 k1 k2 h3 hb50 hbm
        rw [← hLk.out] at hown5
        go_wp2_with (at_builtin; refine app_strs _ rfl _ _ rfl (w.heap.size + 1) _ qs (by rw [hLk.out]; rfl) (hown5.alloc _) ⟨w5.heap.size, 0, none⟩ 1 [s2] 1 rfl rfl (str_one w5 s2 _) (by rw [hLk.out]; simp; omega) (by simp; omega) ?_; intro v6 w6 hown6 hgrow6)
        have hx6 := (hx5.alloc (.cells #[.string (S s2)] 9)).grown hgrow6 (fun e => by have := (hown5.lt _ e.symm).1; omega)
        have hb6 : Below w.heap.size w w6 := (hb05.alloc hb05.size (.cells #[.string (S s2)] 9)).grown hgrow6 (by simp; omega) (fun k hk' => by have := (hown5.lt k hk').1; omega)
        rw [List.length_append, hLk.out, ← HFk.out] at hown6
        go_roundw
        case rel => exact ⟨k + 1, by omega, by rw [Hs2.out], by go_num, by rw [HQ2.out]; exact hown6, hx6, hb6⟩
        case measure => simp [intOf]; omega
    · obtain rfl : k = 16 := by omega
      go_wp2
      go_ret2
      refine ⟨D, e0, ?_, ?_, hbl⟩
      · rw [HT.out, (HLn 16).out]; rfl
      · rw [HT.out]; exact Row.own hown
end Go.Proofs.Ytmmmolbejfdamaa
