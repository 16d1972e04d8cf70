/- TreeTells: for arbitrary arguments, Check, Set, Get and Drop return what the reference returns. Written by wip/tt.py. -/
import Derived.Test.YthccpicnllmikaaTreeDrop
import Derived.Test.YthccpicnllmikaaRefFault
import Derived.Test.YthccpicnllmikaaRefBook
import Derived.Test.YthccpicnllmikaaEqEnts
import Derived.Test.YthccpicnllmikaaArgs
import Derived.Test.YthccpicnllmikaaLaw
namespace Go.Proofs.Ythccpicnllmikaa
open Go.ChangeShapes Go.WideShapes Go.ChangeAt Go.RowKit

set_option maxRecDepth 100000 in
set_option maxHeartbeats 4000000 in
theorem tells_fault (A : Option Addr) (c : Nat) (es : List Ent) (n v : Bytes) (w : World) (hm : es.length ≤ maxLen) (hes : ∀ x ∈ es, x.1.length ≤ maxLen ∧ x.2.length ≤ maxLen) (_ : es.length ≤ c) (hn : n.length ≤ maxLen) (hv : v.length ≤ maxLen) (hA : Row w A (encells es)) (r : Int) (hr : fault es = r) (h0 : r ≠ 0) :
    Calls Try.prog 3 #[.slice A es.length c, .string (S n), .string (S v)] w fun e w' => e = .returned (.bool true) ∧ Below w.heap.size w w' := by
  have ha : askErr es n = r := by rw [askErr, if_neg (by rw [hr]; exact h0)]; exact hr
  have hS := fun (w : World) hA => Lib.hid (treeSet_no A c es n v w hm hes hn hv hA r (by rw [setErr, if_neg (by rw [ha]; exact h0)]; exact ha) h0)
  have hG := fun (w : World) hA => Lib.hid (treeGet_no A c es n w hm hes hn hA r ha h0)
  have hD := fun (w : World) hA => Lib.hid (treeDrop_no A c es n w hm hes hn hA r (by rw [dropErr, if_neg (by rw [ha]; exact h0)]; exact ha) h0)
  have hF := fun (w : World) hA => Lib.hid (refFault A c es w hm hes hA r hr)
  have hC := fun (w : World) hA => Lib.hid (treeCheck A c es w hm hes hA r hr)
  have c1 : (r == 0) = false := beq_eq_false_iff_ne.2 h0
  have c2 : (r != 0) = true := by rw [bne, c1]; rfl
  clear hm hes hn hv hr h0 ha
  go_enter Try.func3, Try.ntmps3
  go_wp2_with fail
  refine (hS _ hA).out.mono ?_
  rintro e w1 ⟨rfl, hb1⟩
  have hb01 := hb1
  go_wp2_with fail
  refine (hG _ (hA.below hb01)).out.mono ?_
  rintro e w2 ⟨rfl, hb2⟩
  have hb02 := below_chain hb01 hb2
  go_wp2_with fail
  refine (hD _ (hA.below hb02)).out.mono ?_
  rintro e w3 ⟨rfl, hb3⟩
  have hb03 := below_chain hb02 hb3
  go_wp2_with fail
  refine (hF _ (hA.below hb03)).out.mono ?_
  rintro e w4 ⟨rfl, hb4⟩
  have hb04 := below_chain hb03 hb4
  go_wp2_with fail
  refine (hC _ (hA.below hb04)).out.mono ?_
  rintro e w5 ⟨rfl, hb5⟩
  have hb05 := below_chain hb04 hb5
  go_wp2
  go_ret
  exact ⟨rfl, hb05⟩

set_option maxRecDepth 100000 in
set_option maxHeartbeats 4000000 in
theorem tells_name (A : Option Addr) (c : Nat) (es : List Ent) (n v : Bytes) (w : World) (hm : es.length ≤ maxLen) (hes : ∀ x ∈ es, x.1.length ≤ maxLen ∧ x.2.length ≤ maxLen) (_ : es.length ≤ c) (hn : n.length ≤ maxLen) (hv : v.length ≤ maxLen) (hA : Row w A (encells es)) (hr : fault es = 0) (hnm : Bin.name n = false) :
    Calls Try.prog 3 #[.slice A es.length c, .string (S n), .string (S v)] w fun e w' => e = .returned (.bool true) ∧ Below w.heap.size w w' := by
  have ha : askErr es n = 3 := by rw [askErr, if_pos hr, hnm, if_neg (by simp)]
  have hS := fun (w : World) hA => Lib.hid (treeSet_no A c es n v w hm hes hn hv hA 3 (by rw [setErr, if_neg (by rw [ha]; decide)]; exact ha) (by decide))
  have hG := fun (w : World) hA => Lib.hid (treeGet_no A c es n w hm hes hn hA 3 ha (by decide))
  have hD := fun (w : World) hA => Lib.hid (treeDrop_no A c es n w hm hes hn hA 3 (by rw [dropErr, if_neg (by rw [ha]; decide)]; exact ha) (by decide))
  have hF := fun (w : World) hA => Lib.hid (refFault A c es w hm hes hA 0 hr)
  have hC := fun (w : World) hA => Lib.hid (treeCheck A c es w hm hes hA 0 hr)
  have hN := fun w => Lib.hid (goodName n w hn false hnm)
  clear hm hes hn hv hr ha hnm
  go_enter Try.func3, Try.ntmps3
  go_wp2_with fail
  refine (hS _ hA).out.mono ?_
  rintro e w1 ⟨rfl, hb1⟩
  have hb01 := hb1
  go_wp2_with fail
  refine (hG _ (hA.below hb01)).out.mono ?_
  rintro e w2 ⟨rfl, hb2⟩
  have hb02 := below_chain hb01 hb2
  go_wp2_with fail
  refine (hD _ (hA.below hb02)).out.mono ?_
  rintro e w3 ⟨rfl, hb3⟩
  have hb03 := below_chain hb02 hb3
  go_wp2_with fail
  refine (hF _ (hA.below hb03)).out.mono ?_
  rintro e w4 ⟨rfl, hb4⟩
  have hb04 := below_chain hb03 hb4
  go_wp2_with fail
  refine (hC _ (hA.below hb04)).out.mono ?_
  rintro e w5 ⟨rfl, hb5⟩
  have hb05 := below_chain hb04 hb5
  go_wp2_with fail
  refine (hN _).out.mono ?_
  rintro e _ ⟨rfl, rfl⟩
  go_wp2
  go_ret
  exact ⟨rfl, hb05⟩

set_option maxRecDepth 100000 in
set_option maxHeartbeats 4000000 in
theorem tells_in_big (A : Option Addr) (c : Nat) (es : List Ent) (n v : Bytes) (w : World) (hm : es.length ≤ maxLen) (hes : ∀ x ∈ es, x.1.length ≤ maxLen ∧ x.2.length ≤ maxLen) (hc : es.length ≤ c) (hn : n.length ≤ maxLen) (hv : v.length ≤ maxLen) (hA : Row w A (encells es)) (hg : Good es) (hnm : Bin.name n = true) (ht : there n es = true) (x : Bytes) (hst : stands es n = some x) (hbig : 20 < v.length) :
    Calls Try.prog 3 #[.slice A es.length c, .string (S n), .string (S v)] w fun e w' => e = .returned (.bool true) ∧ Below w.heap.size w w' := by
  have hf := (fault_ok es).2 hg
  have ha := (askErr_ok es n).2 ⟨hg, hnm⟩
  have hl := hg.len
  have hF := fun (w : World) hA => Lib.hid (refFault A c es w hm hes hA 0 hf)
  have hC := fun (w : World) hA => Lib.hid (treeCheck A c es w hm hes hA 0 hf)
  have hN := fun w => Lib.hid (goodName n w hn true hnm)
  have hS := fun (w : World) hA => Lib.hid (treeSet_no A c es n v w hm hes hn hv hA 2 (by rw [setErr, if_pos ha, if_pos hbig]) (by decide))
  have hD := fun (w : World) hA => Lib.hid (treeDrop_yes A c es n w hc hA ((dropErr_ok es n).2 ⟨hg, hnm, ht⟩))
  have hRD := fun (w : World) hA => Lib.hid (refDrop A c es n w (by omega) hA)
  have hgB : (without n es).length ≤ maxLen := by have := without_le n es; unfold maxLen; omega
  have hEB := fun (D F : Option Addr) (d f : Nat) (w : World) hA hC => Lib.hid (eqEnts D F d f (without n es) (without n es) w hgB true (by simp) hA hC)
  generalize without n es = B at *
  have hG := fun (w : World) hA => Lib.hid (treeGet_yes A c es n w hg hnm hA (some x) hst)
  have hSt := fun (w : World) hA => Lib.hid (refStands A c es n w hm hA (some x) hst)
  have c20 : decide ((20 : Int) < (v.length : Int)) = true := decide_eq_true (by omega)
  clear hm hes hc hn hv ha hnm hg hf ht hst hbig hgB
  go_enter Try.func3, Try.ntmps3
  go_wp2_with fail
  refine (hS _ hA).out.mono ?_
  rintro e w1 ⟨rfl, hb1⟩
  have hb01 := hb1
  go_wp2_with fail
  refine (hG _ (hA.below hb01)).out.mono ?_
  rintro e w2 ⟨rfl, hb2⟩
  have hb02 := below_chain hb01 hb2
  go_wp2_with fail
  refine (hD _ (hA.below hb02)).out.mono ?_
  rintro e w3 ⟨D3, d3, rfl, hown3, hb3⟩
  have hb03 := below_chain hb02 hb3
  have hrB := Row.ownE hown3
  go_wp2_with fail
  refine (hF _ (hA.below hb03)).out.mono ?_
  rintro e w4 ⟨rfl, hb4⟩
  have hb04 := below_chain hb03 hb4
  go_wp2_with fail
  refine (hC _ (hA.below hb04)).out.mono ?_
  rintro e w5 ⟨rfl, hb5⟩
  have hb05 := below_chain hb04 hb5
  go_wp2_with fail
  refine (hN _).out.mono ?_
  rintro e _ ⟨rfl, rfl⟩
  go_wp2_with fail
  refine (hSt _ (hA.below hb05)).out.mono ?_
  rintro e w6 ⟨rfl, hb6⟩
  have hb06 := below_chain hb05 hb6
  have hb36 := below_chain (below_chain hb4 hb5) hb6
  have hrB6 := hrB.below hb36
  go_wp2_with fail
  refine (hRD _ (hA.below hb06)).out.mono ?_
  rintro e w7 ⟨D7, d7, rfl, hr7, hb7⟩
  have hb07 := below_chain hb06 hb7
  go_wp2_with fail
  refine (hEB D3 D7 d3 d7 _ (hrB6.below hb7) hr7).out.mono ?_
  rintro e w8 ⟨rfl, m8, hw8⟩
  have hb8 : Below w7.heap.size w7 w8 := by rw [hw8]; exact below_of_drewN _ _ _
  clear hw8
  have hb08 := below_chain hb07 hb8
  go_wp2
  go_ret
  exact ⟨rfl, hb08⟩

set_option maxRecDepth 100000 in
set_option maxHeartbeats 4000000 in
theorem tells_in_ok (A : Option Addr) (c : Nat) (es : List Ent) (n v : Bytes) (w : World) (hm : es.length ≤ maxLen) (hes : ∀ x ∈ es, x.1.length ≤ maxLen ∧ x.2.length ≤ maxLen) (hc : es.length ≤ c) (hn : n.length ≤ maxLen) (_ : v.length ≤ maxLen) (hA : Row w A (encells es)) (hg : Good es) (hnm : Bin.name n = true) (ht : there n es = true) (x : Bytes) (hst : stands es n = some x) (hbig : ¬ 20 < v.length) :
    Calls Try.prog 3 #[.slice A es.length c, .string (S n), .string (S v)] w fun e w' => e = .returned (.bool true) ∧ Below w.heap.size w w' := by
  have hf := (fault_ok es).2 hg
  have ha := (askErr_ok es n).2 ⟨hg, hnm⟩
  have hl := hg.len
  have hF := fun (w : World) hA => Lib.hid (refFault A c es w hm hes hA 0 hf)
  have hC := fun (w : World) hA => Lib.hid (treeCheck A c es w hm hes hA 0 hf)
  have hN := fun w => Lib.hid (goodName n w hn true hnm)
  have hok := (setErr_ok es n v).2 ⟨hg, hnm, by omega, .inl ht⟩
  have hS := fun (w : World) hA => Lib.hid (treeSet_yes A c es n v w hc hA hok)
  have hRS := fun (w : World) hA => Lib.hid (refSet A c es n v w (by omega) hn (fun x hx => (hes x hx).1) hA)
  have hgT : (setTo n v es).length ≤ maxLen := by have := setTo_le n v es; unfold maxLen; omega
  have hE := fun (D F : Option Addr) (d f : Nat) (w : World) hA hC => Lib.hid (eqEnts D F d f (setTo n v es) (setTo n v es) w hgT true (by simp) hA hC)
  generalize setTo n v es = T at *
  have hD := fun (w : World) hA => Lib.hid (treeDrop_yes A c es n w hc hA ((dropErr_ok es n).2 ⟨hg, hnm, ht⟩))
  have hRD := fun (w : World) hA => Lib.hid (refDrop A c es n w (by omega) hA)
  have hgB : (without n es).length ≤ maxLen := by have := without_le n es; unfold maxLen; omega
  have hEB := fun (D F : Option Addr) (d f : Nat) (w : World) hA hC => Lib.hid (eqEnts D F d f (without n es) (without n es) w hgB true (by simp) hA hC)
  generalize without n es = B at *
  have hG := fun (w : World) hA => Lib.hid (treeGet_yes A c es n w hg hnm hA (some x) hst)
  have hSt := fun (w : World) hA => Lib.hid (refStands A c es n w hm hA (some x) hst)
  have c20 : decide ((20 : Int) < (v.length : Int)) = false := decide_eq_false (by omega)
  clear hm hes hc hn ha hnm hg hf ht hst hbig hgB hgT hok
  go_enter Try.func3, Try.ntmps3
  go_wp2_with fail
  refine (hS _ hA).out.mono ?_
  rintro e w1 ⟨D1, d1, rfl, hown1, hb1⟩
  have hb01 := hb1
  have hrT := Row.ownE hown1
  go_wp2_with fail
  refine (hG _ (hA.below hb01)).out.mono ?_
  rintro e w2 ⟨rfl, hb2⟩
  have hb02 := below_chain hb01 hb2
  go_wp2_with fail
  refine (hD _ (hA.below hb02)).out.mono ?_
  rintro e w3 ⟨D3, d3, rfl, hown3, hb3⟩
  have hb03 := below_chain hb02 hb3
  have hrB := Row.ownE hown3
  go_wp2_with fail
  refine (hF _ (hA.below hb03)).out.mono ?_
  rintro e w4 ⟨rfl, hb4⟩
  have hb04 := below_chain hb03 hb4
  go_wp2_with fail
  refine (hC _ (hA.below hb04)).out.mono ?_
  rintro e w5 ⟨rfl, hb5⟩
  have hb05 := below_chain hb04 hb5
  go_wp2_with fail
  refine (hN _).out.mono ?_
  rintro e _ ⟨rfl, rfl⟩
  go_wp2_with fail
  refine (hSt _ (hA.below hb05)).out.mono ?_
  rintro e w6 ⟨rfl, hb6⟩
  have hb06 := below_chain hb05 hb6
  have hb26 := below_chain (below_chain (below_chain (below_chain hb2 hb3) hb4) hb5) hb6
  have hrT6 := hrT.below hb26
  have hb36 := below_chain (below_chain hb4 hb5) hb6
  have hrB6 := hrB.below hb36
  go_wp2_with fail
  refine (hRD _ (hA.below hb06)).out.mono ?_
  rintro e w7 ⟨D7, d7, rfl, hr7, hb7⟩
  have hb07 := below_chain hb06 hb7
  go_wp2_with fail
  refine (hEB D3 D7 d3 d7 _ (hrB6.below hb7) hr7).out.mono ?_
  rintro e w8 ⟨rfl, m8, hw8⟩
  have hb8 : Below w7.heap.size w7 w8 := by rw [hw8]; exact below_of_drewN _ _ _
  clear hw8
  have hb08 := below_chain hb07 hb8
  have hrT8 := (hrT6.below hb7).below hb8
  go_wp2_with fail
  refine (hRS _ (hA.below hb08)).out.mono ?_
  rintro e w9 ⟨D9, d9, rfl, hr9, hb9⟩
  have hb09 := below_chain hb08 hb9
  go_wp2_with fail
  refine (hE D1 D9 d1 d9 _ (hrT8.below hb9) hr9).out.mono ?_
  rintro e w10 ⟨rfl, m10, hw10⟩
  have hb10 : Below w9.heap.size w9 w10 := by rw [hw10]; exact below_of_drewN _ _ _
  clear hw10
  have hb010 := below_chain hb09 hb10
  go_wp2
  go_ret
  exact ⟨rfl, hb010⟩

set_option maxRecDepth 100000 in
set_option maxHeartbeats 4000000 in
theorem tells_out_big (A : Option Addr) (c : Nat) (es : List Ent) (n v : Bytes) (w : World) (hm : es.length ≤ maxLen) (hes : ∀ x ∈ es, x.1.length ≤ maxLen ∧ x.2.length ≤ maxLen) (_ : es.length ≤ c) (hn : n.length ≤ maxLen) (hv : v.length ≤ maxLen) (hA : Row w A (encells es)) (hg : Good es) (hnm : Bin.name n = true) (ht : there n es = false) (hst : stands es n = none) (hbig : 20 < v.length) :
    Calls Try.prog 3 #[.slice A es.length c, .string (S n), .string (S v)] w fun e w' => e = .returned (.bool true) ∧ Below w.heap.size w w' := by
  have hf := (fault_ok es).2 hg
  have ha := (askErr_ok es n).2 ⟨hg, hnm⟩
  have hl := hg.len
  have hF := fun (w : World) hA => Lib.hid (refFault A c es w hm hes hA 0 hf)
  have hC := fun (w : World) hA => Lib.hid (treeCheck A c es w hm hes hA 0 hf)
  have hN := fun w => Lib.hid (goodName n w hn true hnm)
  have hS := fun (w : World) hA => Lib.hid (treeSet_no A c es n v w hm hes hn hv hA 2 (by rw [setErr, if_pos ha, if_pos hbig]) (by decide))
  have hD := fun (w : World) hA => Lib.hid (treeDrop_no A c es n w hm hes hn hA 5 (by rw [dropErr, if_pos ha, ht, if_neg (by simp)]) (by decide))
  have hG := fun (w : World) hA => Lib.hid (treeGet_yes A c es n w hg hnm hA none hst)
  have hSt := fun (w : World) hA => Lib.hid (refStands A c es n w hm hA none hst)
  have c20 : decide ((20 : Int) < (v.length : Int)) = true := decide_eq_true (by omega)
  clear hm hes hn hv ha hnm hg hf ht hst hbig
  go_enter Try.func3, Try.ntmps3
  go_wp2_with fail
  refine (hS _ hA).out.mono ?_
  rintro e w1 ⟨rfl, hb1⟩
  have hb01 := hb1
  go_wp2_with fail
  refine (hG _ (hA.below hb01)).out.mono ?_
  rintro e w2 ⟨rfl, hb2⟩
  have hb02 := below_chain hb01 hb2
  go_wp2_with fail
  refine (hD _ (hA.below hb02)).out.mono ?_
  rintro e w3 ⟨rfl, hb3⟩
  have hb03 := below_chain hb02 hb3
  go_wp2_with fail
  refine (hF _ (hA.below hb03)).out.mono ?_
  rintro e w4 ⟨rfl, hb4⟩
  have hb04 := below_chain hb03 hb4
  go_wp2_with fail
  refine (hC _ (hA.below hb04)).out.mono ?_
  rintro e w5 ⟨rfl, hb5⟩
  have hb05 := below_chain hb04 hb5
  go_wp2_with fail
  refine (hN _).out.mono ?_
  rintro e _ ⟨rfl, rfl⟩
  go_wp2_with fail
  refine (hSt _ (hA.below hb05)).out.mono ?_
  rintro e w6 ⟨rfl, hb6⟩
  have hb06 := below_chain hb05 hb6
  go_wp2
  go_ret
  exact ⟨rfl, hb06⟩

set_option maxRecDepth 100000 in
set_option maxHeartbeats 4000000 in
theorem tells_out_full (A : Option Addr) (c : Nat) (es : List Ent) (n v : Bytes) (w : World) (hm : es.length ≤ maxLen) (hes : ∀ x ∈ es, x.1.length ≤ maxLen ∧ x.2.length ≤ maxLen) (_ : es.length ≤ c) (hn : n.length ≤ maxLen) (hv : v.length ≤ maxLen) (hA : Row w A (encells es)) (hg : Good es) (hnm : Bin.name n = true) (ht : there n es = false) (hst : stands es n = none) (hbig : ¬ 20 < v.length) (h24 : es.length = 24) :
    Calls Try.prog 3 #[.slice A es.length c, .string (S n), .string (S v)] w fun e w' => e = .returned (.bool true) ∧ Below w.heap.size w w' := by
  have hf := (fault_ok es).2 hg
  have ha := (askErr_ok es n).2 ⟨hg, hnm⟩
  have hl := hg.len
  have hF := fun (w : World) hA => Lib.hid (refFault A c es w hm hes hA 0 hf)
  have hC := fun (w : World) hA => Lib.hid (treeCheck A c es w hm hes hA 0 hf)
  have hN := fun w => Lib.hid (goodName n w hn true hnm)
  have hS := fun (w : World) hA => Lib.hid (treeSet_no A c es n v w hm hes hn hv hA 7 (by rw [setErr, if_pos ha, if_neg hbig, if_pos ⟨ht, h24⟩]) (by decide))
  have hD := fun (w : World) hA => Lib.hid (treeDrop_no A c es n w hm hes hn hA 5 (by rw [dropErr, if_pos ha, ht, if_neg (by simp)]) (by decide))
  have hG := fun (w : World) hA => Lib.hid (treeGet_yes A c es n w hg hnm hA none hst)
  have hSt := fun (w : World) hA => Lib.hid (refStands A c es n w hm hA none hst)
  have c20 : decide ((20 : Int) < (v.length : Int)) = false := decide_eq_false (by omega)
  have c24 : ((es.length : Int) == 24) = true := beq_iff_eq.2 (by omega)
  clear hm hes hn hv ha hnm hg hf ht hst hbig h24
  go_enter Try.func3, Try.ntmps3
  go_wp2_with fail
  refine (hS _ hA).out.mono ?_
  rintro e w1 ⟨rfl, hb1⟩
  have hb01 := hb1
  go_wp2_with fail
  refine (hG _ (hA.below hb01)).out.mono ?_
  rintro e w2 ⟨rfl, hb2⟩
  have hb02 := below_chain hb01 hb2
  go_wp2_with fail
  refine (hD _ (hA.below hb02)).out.mono ?_
  rintro e w3 ⟨rfl, hb3⟩
  have hb03 := below_chain hb02 hb3
  go_wp2_with fail
  refine (hF _ (hA.below hb03)).out.mono ?_
  rintro e w4 ⟨rfl, hb4⟩
  have hb04 := below_chain hb03 hb4
  go_wp2_with fail
  refine (hC _ (hA.below hb04)).out.mono ?_
  rintro e w5 ⟨rfl, hb5⟩
  have hb05 := below_chain hb04 hb5
  go_wp2_with fail
  refine (hN _).out.mono ?_
  rintro e _ ⟨rfl, rfl⟩
  go_wp2_with fail
  refine (hSt _ (hA.below hb05)).out.mono ?_
  rintro e w6 ⟨rfl, hb6⟩
  have hb06 := below_chain hb05 hb6
  go_wp2
  go_ret
  exact ⟨rfl, hb06⟩

set_option maxRecDepth 100000 in
set_option maxHeartbeats 4000000 in
theorem tells_out_ok (A : Option Addr) (c : Nat) (es : List Ent) (n v : Bytes) (w : World) (hm : es.length ≤ maxLen) (hes : ∀ x ∈ es, x.1.length ≤ maxLen ∧ x.2.length ≤ maxLen) (hc : es.length ≤ c) (hn : n.length ≤ maxLen) (_ : v.length ≤ maxLen) (hA : Row w A (encells es)) (hg : Good es) (hnm : Bin.name n = true) (ht : there n es = false) (hst : stands es n = none) (hbig : ¬ 20 < v.length) (h24 : ¬ es.length = 24) :
    Calls Try.prog 3 #[.slice A es.length c, .string (S n), .string (S v)] w fun e w' => e = .returned (.bool true) ∧ Below w.heap.size w w' := by
  have hf := (fault_ok es).2 hg
  have ha := (askErr_ok es n).2 ⟨hg, hnm⟩
  have hl := hg.len
  have hF := fun (w : World) hA => Lib.hid (refFault A c es w hm hes hA 0 hf)
  have hC := fun (w : World) hA => Lib.hid (treeCheck A c es w hm hes hA 0 hf)
  have hN := fun w => Lib.hid (goodName n w hn true hnm)
  have hok := (setErr_ok es n v).2 ⟨hg, hnm, by omega, .inr (by omega)⟩
  have hS := fun (w : World) hA => Lib.hid (treeSet_yes A c es n v w hc hA hok)
  have hRS := fun (w : World) hA => Lib.hid (refSet A c es n v w (by omega) hn (fun x hx => (hes x hx).1) hA)
  have hgT : (setTo n v es).length ≤ maxLen := by have := setTo_le n v es; unfold maxLen; omega
  have hE := fun (D F : Option Addr) (d f : Nat) (w : World) hA hC => Lib.hid (eqEnts D F d f (setTo n v es) (setTo n v es) w hgT true (by simp) hA hC)
  generalize setTo n v es = T at *
  have hD := fun (w : World) hA => Lib.hid (treeDrop_no A c es n w hm hes hn hA 5 (by rw [dropErr, if_pos ha, ht, if_neg (by simp)]) (by decide))
  have hG := fun (w : World) hA => Lib.hid (treeGet_yes A c es n w hg hnm hA none hst)
  have hSt := fun (w : World) hA => Lib.hid (refStands A c es n w hm hA none hst)
  have c20 : decide ((20 : Int) < (v.length : Int)) = false := decide_eq_false (by omega)
  have c24 : ((es.length : Int) == 24) = false := beq_eq_false_iff_ne.2 (by omega)
  clear hm hes hc hn ha hnm hg hf ht hst hbig hgT hok
  go_enter Try.func3, Try.ntmps3
  go_wp2_with fail
  refine (hS _ hA).out.mono ?_
  rintro e w1 ⟨D1, d1, rfl, hown1, hb1⟩
  have hb01 := hb1
  have hrT := Row.ownE hown1
  go_wp2_with fail
  refine (hG _ (hA.below hb01)).out.mono ?_
  rintro e w2 ⟨rfl, hb2⟩
  have hb02 := below_chain hb01 hb2
  go_wp2_with fail
  refine (hD _ (hA.below hb02)).out.mono ?_
  rintro e w3 ⟨rfl, hb3⟩
  have hb03 := below_chain hb02 hb3
  go_wp2_with fail
  refine (hF _ (hA.below hb03)).out.mono ?_
  rintro e w4 ⟨rfl, hb4⟩
  have hb04 := below_chain hb03 hb4
  go_wp2_with fail
  refine (hC _ (hA.below hb04)).out.mono ?_
  rintro e w5 ⟨rfl, hb5⟩
  have hb05 := below_chain hb04 hb5
  go_wp2_with fail
  refine (hN _).out.mono ?_
  rintro e _ ⟨rfl, rfl⟩
  go_wp2_with fail
  refine (hSt _ (hA.below hb05)).out.mono ?_
  rintro e w6 ⟨rfl, hb6⟩
  have hb06 := below_chain hb05 hb6
  have hb26 := below_chain (below_chain (below_chain (below_chain hb2 hb3) hb4) hb5) hb6
  have hrT6 := hrT.below hb26
  go_wp2_with fail
  refine (hRS _ (hA.below hb06)).out.mono ?_
  rintro e w7 ⟨D9, d9, rfl, hr9, hb7⟩
  have hb07 := below_chain hb06 hb7
  go_wp2_with fail
  refine (hE D1 D9 d1 d9 _ (hrT6.below hb7) hr9).out.mono ?_
  rintro e w8 ⟨rfl, m8, hw8⟩
  have hb8 : Below w7.heap.size w7 w8 := by rw [hw8]; exact below_of_drewN _ _ _
  clear hw8
  have hb08 := below_chain hb07 hb8
  go_wp2
  go_ret
  exact ⟨rfl, hb08⟩

theorem treeTells_walk (A : Option Addr) (c : Nat) (es : List Ent) (n v : Bytes) (w : World) (hm : es.length ≤ maxLen) (hes : ∀ x ∈ es, x.1.length ≤ maxLen ∧ x.2.length ≤ maxLen) (hc : es.length ≤ c) (hn : n.length ≤ maxLen) (hv : v.length ≤ maxLen) (hA : Row w A (encells es)) :
    Calls Try.prog 3 #[.slice A es.length c, .string (S n), .string (S v)] w fun e w' => e = .returned (.bool true) ∧ Below w.heap.size w w' := by
  by_cases hf : fault es = 0
  · have hg := (fault_ok es).1 hf
    cases hnm : Bin.name n with
    | false => exact tells_name A c es n v w hm hes hc hn hv hA hf hnm
    | true =>
      have hts := there_stands n es hg.order
      cases ht : there n es with
      | true =>
        rw [ht] at hts
        cases hst : stands es n with
        | none => rw [hst] at hts; cases hts
        | some x =>
          by_cases hbig : 20 < v.length
          · exact tells_in_big A c es n v w hm hes hc hn hv hA hg hnm ht x hst hbig
          · exact tells_in_ok A c es n v w hm hes hc hn hv hA hg hnm ht x hst hbig
      | false =>
        rw [ht] at hts
        cases hst : stands es n with
        | some x => rw [hst] at hts; cases hts
        | none =>
          by_cases hbig : 20 < v.length
          · exact tells_out_big A c es n v w hm hes hc hn hv hA hg hnm ht hst hbig
          · by_cases h24 : es.length = 24
            · exact tells_out_full A c es n v w hm hes hc hn hv hA hg hnm ht hst hbig h24
            · exact tells_out_ok A c es n v w hm hes hc hn hv hA hg hnm ht hst hbig h24
  · exact tells_fault A c es n v w hm hes hc hn hv hA _ rfl hf

set_option maxRecDepth 100000 in
theorem treeTells_lifted (os : Os) (started : os.Started) (H : Type) (enc : TypeId × Value → H) :
    ReturnsInHanded {} Try.checked os 3 .any (Rows.treeTellsSpec.pre6 enc Try.prog Try.f3 Rows.treeTellsRow.domain false) (Rows.treeTellsSpec.post enc Try.prog Try.f3 false true false false) := by
  refine returnsInHanded_of_change (C := Try.checked) own started (by kernel_rfl) Try.func3
    (ChangeSpec.witness6 (enc := enc) (C := Try.checked) false ⟨#[], #[.slice none 0 0, .string ⟨#[]⟩, .string ⟨#[]⟩], []⟩ 8 (by kernel_rfl) (by kernel_rfl) (by kernel_rfl) (by kernel_rfl)) ?_
  intro W base args ds gs before hval0 hW hcnd _
  have hval : ∀ (j : Nat) t v, Try.f3.params[j]? = some t → args[j]? = some v → Value.okWide Try.prog W .any base t v := hval0
  have hW' := hW
  obtain ⟨p, q, hA0, hV, rfl, hfz, hnd⟩ := hW
  have hA : DataW.TrodAll enc Try.prog W 0 (fun _ => true) true Try.f3.params.toList args.toList ds p := hA0
  rw [Try.params3] at hA hval
  obtain ⟨v0, vs0, d0, ds0, p0, q0, hargs, rfl, rfl, h0, r0⟩ := trodAll_cons hA
  obtain ⟨v1, vs1, d1, ds1, p1, q1, rfl, rfl, rfl, h1, r1⟩ := trodAll_cons r0
  obtain ⟨v2, vs2, d2, ds2, p2, q2, rfl, rfl, rfl, h2, r2⟩ := trodAll_cons r1
  obtain ⟨rfl, rfl, rfl⟩ := trodAll_nil r2
  obtain rfl : args = #[v0, v1, v2] := by cases args; simp_all
  obtain ⟨rfl, rfl⟩ := trodVars_none hV
  obtain ⟨A0, c0, s0, rfl, hm0, hr0, hs0, hc0, -⟩ := arg_ents (hval 0 22 v0 rfl rfl) h0
  obtain ⟨l1, rfl, hl1⟩ := arg_str (hval 1 9 v1 rfl rfl) h1
  obtain ⟨l2, rfl, hl2⟩ := arg_str (hval 2 9 v2 rfl rfl) h2
  refine (treeTells_walk A0 c0 s0 l1 l2 W hm0 hs0 hc0 hl1 hl2 hr0).mono fun e W' ⟨he, hb⟩ => ?_
  subst he
  exact ⟨_, rfl, post_law laidOut (by decide +kernel) rfl Try.underlying4 (by kernel_rfl) hW' rfl hb⟩

/-- The statement. -/
theorem treeTells_said : Rows.TreeTellsSaid :=
  OpenClaim.holds_of_wide 3 Try.f3 rfl rfl rfl rfl rfl rfl rfl ⟨rfl, rfl, rfl, rfl, rfl⟩ rfl rfl rfl rfl rfl (by kernel_rfl) Try.func3 (by kernel_rfl)
    (of_decide_eq_true (by kernel_rfl)) (by unfold Func.isWrapper; first | (rw [if_pos (by decide +kernel)]; kernel_rfl) | (rw [if_neg (by decide +kernel)]; exact ⟨rfl, rfl⟩))
    (fun os started H enc _ => treeTells_lifted os started H enc)
#print axioms treeTells_said
end Go.Proofs.Ythccpicnllmikaa
