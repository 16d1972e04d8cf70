/- package proof: Root returns the hash of the last preimage, verify the error of a proof against a root, Tell what a proof shows, After the root behind a name that is set. They write nothing that was there. -/
import Derived.Test.YtdibccebaaagoaaProofSaid
import Derived.Test.YtdibccebaaagoaaTreeAny
namespace Go.Proofs.Ytdibccebaaagoaa
set_option maxRecDepth 100000
open Go.RowKit

set_option maxHeartbeats 400000 in
theorem proofRoot_no (n : Bytes) (es : List Ent) (ss : List Nat) (A B : Option Addr) (c d : Nat) (w : World) (hn : n.length ≤ maxLen) (hm : es.length ≤ maxLen) (hes : ∀ x ∈ es, x.1.length ≤ maxLen ∧ x.2.length ≤ maxLen) (hsm : ss.length ≤ maxLen) (hA : Row w A (encells es)) (hB : Row w B (mcells ss)) (r : Int) (hr : pfault n es ss = r) (h0 : r ≠ 0) :
    Calls Try.prog 29 #[.agg #[.string (S n), .slice A es.length c, .slice B ss.length d]] w fun e w' => e = .returned (.tuple #[.int .u64 0, .int .i64 r]) ∧ Below w.heap.size w w' := by
  have hR := fun (w : World) hA hB => Lib.hid (proofSaid_no n es ss A B c d w hn hm hes hsm hA hB r hr h0)
  have c1 : (r == 0) = false := beq_eq_false_iff_ne.2 h0
  obtain ⟨k0, k1, k2⟩ := PBox.new w n A B es.length c ss.length d 26
  clear hn hm hes hsm hr h0
  go_enter Try.func29, Try.ntmps29
  go_wp2_with fail
  refine (hR _ (hA.alloc _) (hB.alloc _)).out.mono ?_
  rintro e w1 ⟨rfl, hb1⟩
  go_wp2
  go_ret2
  exact ⟨rfl, below_chain ((Below.refl _ _).alloc (Nat.le_refl _) _) hb1⟩

set_option maxHeartbeats 800000 in
theorem proofRoot_yes (n : Bytes) (es : List Ent) (ss : List Nat) (A B : Option Addr) (c d : Nat) (w : World) (hp : PGood n es ss) (hA : Row w A (encells es)) (hB : Row w B (mcells ss)) (x : Nat) (hx : proot n es ss = x) :
    Calls Try.prog 29 #[.agg #[.string (S n), .slice A es.length c, .slice B ss.length d]] w fun e w' => e = .returned (.tuple #[.int .u64 (x : Int), .int .i64 0]) ∧ Below w.heap.size w w' := by
  have hS := fun (w : World) hA hB => Lib.hid (proofSaid_yes n es ss A B c d w hp hA hB)
  have hm := hp.book.len
  have hM := fun w => Lib.hid (markOf (climb n es ss 16) w (climb_le n es ss (by omega) (good_5 hp.book) 16))
  have HG : Hid ((psaid n es ss)[16]? = some (climb n es ss 16)) := by
    show _ = _
    rw [psaid, List.getElem?_map, List.getElem?_range (by omega)]
    rfl
  have hlen : (psaid n es ss).length = 17 := by rw [psaid, List.length_map, List.length_range]
  rw [proot] at hx
  rw [hx] at hM
  generalize psaid n es ss = T at *
  generalize climb n es ss 16 = s at *
  obtain ⟨k0, k1, k2⟩ := PBox.new w n A B es.length c ss.length d 26
  clear hx hp hm
  go_enter Try.func29, Try.ntmps29
  go_wp2_with fail
  refine (hS _ (hA.alloc _) (hB.alloc _)).out.mono ?_
  rintro e w1 ⟨D, f, rfl, hr, hb1⟩
  obtain ⟨g, off, rfl, h1⟩ := hr.str1 16 s HG.out
  rw [hlen]
  clear hS HG hr hlen
  go_wp2_with fail
  refine (hM _).out.mono ?_
  rintro e w2 ⟨rfl, m, rfl⟩
  go_wp2
  go_ret2
  exact ⟨rfl, below_drewN (below_chain ((Below.refl _ _).alloc (Nat.le_refl _) _) hb1) _⟩

/-- The error of a proof against a root. -/
def verr (root : Nat) (n : Bytes) (es : List Ent) (ss : List Nat) : Int := if pfault n es ss = 0 then (if proot n es ss = root then 0 else 8) else pfault n es ss
theorem verr_ok (root : Nat) (n : Bytes) (es : List Ent) (ss : List Nat) : verr root n es ss = 0 ↔ PGood n es ss ∧ proot n es ss = root := by
  unfold verr
  rw [← pfault_ok]
  by_cases h : pfault n es ss = 0
  · rw [if_pos h]
    by_cases h2 : proot n es ss = root
    · rw [if_pos h2]; exact ⟨fun _ => ⟨h, h2⟩, fun _ => rfl⟩
    · rw [if_neg h2]; exact ⟨fun e => absurd e (by decide), fun e => absurd e.2 h2⟩
  · rw [if_neg h]
    exact ⟨fun e => absurd e h, fun e => absurd e.1 h⟩

set_option maxHeartbeats 800000 in
theorem verify (root : Nat) (n : Bytes) (es : List Ent) (ss : List Nat) (A B : Option Addr) (c d : Nat) (w : World) (hn : n.length ≤ maxLen) (hm : es.length ≤ maxLen) (hes : ∀ x ∈ es, x.1.length ≤ maxLen ∧ x.2.length ≤ maxLen) (hsm : ss.length ≤ maxLen) (hA : Row w A (encells es)) (hB : Row w B (mcells ss)) (r : Int) (hr : verr root n es ss = r) :
    Calls Try.prog 17 #[.int .u64 (root : Int), .agg #[.string (S n), .slice A es.length c, .slice B ss.length d]] w fun e w' => e = .returned (.int .i64 r) ∧ Below w.heap.size w w' := by
  unfold verr at hr
  obtain ⟨k0, k1, k2⟩ := PBox.new w n A B es.length c ss.length d 26
  by_cases hf : pfault n es ss = 0
  · rw [if_pos hf] at hr
    have hR := fun (w : World) hA hB => Lib.hid (proofRoot_yes n es ss A B c d w ((pfault_ok _ _ _).1 hf) hA hB _ rfl)
    generalize proot n es ss = x at *
    clear hf hn hm hes hsm
    by_cases h1 : x = root
    · have c1 : ((x : Int) == (root : Int)) = true := beq_iff_eq.2 (by omega)
      rw [if_pos h1] at hr
      subst hr
      clear h1
      go_enter Try.func17, Try.ntmps17
      go_wp2_with fail
      refine (hR _ (hA.alloc _) (hB.alloc _)).out.mono ?_
      rintro e w1 ⟨rfl, hb1⟩
      go_wp2
      go_ret
      exact ⟨rfl, below_chain ((Below.refl _ _).alloc (Nat.le_refl _) _) hb1⟩
    · have c1 : ((x : Int) == (root : Int)) = false := beq_eq_false_iff_ne.2 (by omega)
      rw [if_neg h1] at hr
      subst hr
      clear h1
      go_enter Try.func17, Try.ntmps17
      go_wp2_with fail
      refine (hR _ (hA.alloc _) (hB.alloc _)).out.mono ?_
      rintro e w1 ⟨rfl, hb1⟩
      go_wp2
      go_ret
      exact ⟨rfl, below_chain ((Below.refl _ _).alloc (Nat.le_refl _) _) hb1⟩
  · rw [if_neg hf] at hr
    have h0 : r ≠ 0 := by rw [← hr]; exact hf
    have hR := fun (w : World) hA hB => Lib.hid (proofRoot_no n es ss A B c d w hn hm hes hsm hA hB r hr h0)
    have c1 : (r == 0) = false := beq_eq_false_iff_ne.2 h0
    clear hn hm hes hsm hr h0 hf
    go_enter Try.func17, Try.ntmps17
    go_wp2_with fail
    refine (hR _ (hA.alloc _) (hB.alloc _)).out.mono ?_
    rintro e w1 ⟨rfl, hb1⟩
    go_wp2
    go_ret
    exact ⟨rfl, below_chain ((Below.refl _ _).alloc (Nat.le_refl _) _) hb1⟩

/-- What Tell answers. -/
def tellAns (root : Nat) (n : Bytes) (es : List Ent) (ss : List Nat) : Bytes × Bool × Int := if verr root n es ss = 0 then ((stands es n).getD [], (stands es n).isSome, 0) else ([], false, verr root n es ss)

set_option maxHeartbeats 800000 in
theorem proofTell (root : Nat) (n : Bytes) (es : List Ent) (ss : List Nat) (A B : Option Addr) (c d : Nat) (w : World) (hn : n.length ≤ maxLen) (hm : es.length ≤ maxLen) (hes : ∀ x ∈ es, x.1.length ≤ maxLen ∧ x.2.length ≤ maxLen) (hsm : ss.length ≤ maxLen) (hA : Row w A (encells es)) (hB : Row w B (mcells ss)) (x : Bytes) (b : Bool) (r : Int) (h : tellAns root n es ss = (x, b, r)) :
    Calls Try.prog 6 #[.int .u64 (root : Int), .agg #[.string (S n), .slice A es.length c, .slice B ss.length d]] w fun e w' => e = .returned (.tuple #[.string (S x), .bool b, .int .i64 r]) ∧ Below w.heap.size w w' := by
  have hV := fun (w : World) hA hB => Lib.hid (verify root n es ss A B c d w hn hm hes hsm hA hB _ rfl)
  obtain ⟨k0, k1, k2⟩ := PBox.new w n A B es.length c ss.length d 26
  unfold tellAns at h
  by_cases h0 : verr root n es ss = 0
  · rw [if_pos h0] at h
    obtain ⟨hp, _⟩ := (verr_ok _ _ _ _).1 h0
    have hG := fun (w : World) hA => Lib.hid (treeGet A c es n w hm hes hn hA x b r (by rw [getAns, if_pos ((askErr_ok _ _).2 ⟨hp.book, hp.name⟩)]; exact h))
    rw [h0] at hV
    clear h h0 hp hn hm hes hsm
    go_enter Try.func6, Try.ntmps6
    go_wp2_with fail
    refine (hV _ (hA.alloc _) (hB.alloc _)).out.mono ?_
    rintro e w1 ⟨rfl, hb1⟩
    have hx1 := (PBox.mk k0 k1 k2).below hb1
    have hb01 : Below w.heap.size w w1 := below_chain ((Below.refl _ _).alloc (Nat.le_refl _) _) hb1
    clear k0 k1 k2
    obtain ⟨k0, k1, k2⟩ := hx1
    go_wp2_with fail
    refine (hG _ (hA.below hb01)).out.mono ?_
    rintro e w2 ⟨rfl, hb2⟩
    go_wp2
    go_ret3
    exact ⟨rfl, below_chain hb01 hb2⟩
  · rw [if_neg h0] at h
    injection h with h1 h2
    injection h2 with h2 h3
    rw [h3] at hV
    have c1 : (r == 0) = false := beq_eq_false_iff_ne.2 (by rw [← h3]; exact h0)
    subst h1; subst h2
    clear h0 h3 hn hm hes hsm
    go_enter Try.func6, Try.ntmps6
    go_wp2_with fail
    refine (hV _ (hA.alloc _) (hB.alloc _)).out.mono ?_
    rintro e w1 ⟨rfl, hb1⟩
    go_wp2
    go_ret3
    exact ⟨rfl, below_chain ((Below.refl _ _).alloc (Nat.le_refl _) _) hb1⟩

theorem sameWay_at16 (n : Bytes) (es : List Ent) : sameWay n es = true ↔ at16 es (Bin.of n) = es := by
  unfold sameWay at16
  rw [List.filter_eq_self, List.all_eq_true]
theorem setTo_pgood {n v : Bytes} {es : List Ent} {ss : List Nat} (hp : PGood n es ss) (h : setErr es n v = 0) : PGood n (setTo n v es) ss :=
  ⟨hp.name, setT_good h, by rw [sameWay_at16, at16_setTo, (sameWay_at16 n es).1 hp.way], hp.len, hp.low⟩
/-- What After answers. -/
def afterErr (root : Nat) (n : Bytes) (es : List Ent) (ss : List Nat) (v : Bytes) : Int := if verr root n es ss = 0 then setErr es n v else verr root n es ss
def afterAns (root : Nat) (n : Bytes) (es : List Ent) (ss : List Nat) (v : Bytes) : Nat := if afterErr root n es ss v = 0 then proot n (setTo n v es) ss else 0
theorem afterErr_ok (root : Nat) (n : Bytes) (es : List Ent) (ss : List Nat) (v : Bytes) : afterErr root n es ss v = 0 ↔ verr root n es ss = 0 ∧ setErr es n v = 0 := by
  unfold afterErr
  by_cases h : verr root n es ss = 0
  · rw [if_pos h]; exact ⟨fun e => ⟨h, e⟩, fun e => e.2⟩
  · rw [if_neg h]; exact ⟨fun e => absurd e h, fun e => absurd e.1 h⟩

set_option maxHeartbeats 1000000 in
theorem proofAfter (root : Nat) (n : Bytes) (es : List Ent) (ss : List Nat) (v : Bytes) (A B : Option Addr) (c d : Nat) (w : World) (hn : n.length ≤ maxLen) (hm : es.length ≤ maxLen) (hes : ∀ x ∈ es, x.1.length ≤ maxLen ∧ x.2.length ≤ maxLen) (hsm : ss.length ≤ maxLen) (hc : es.length ≤ c) (hv : v.length ≤ maxLen) (hA : Row w A (encells es)) (hB : Row w B (mcells ss)) (x : Nat) (r : Int) (hx : afterAns root n es ss v = x) (hr : afterErr root n es ss v = r) :
    Calls Try.prog 13 #[.int .u64 (root : Int), .agg #[.string (S n), .slice A es.length c, .slice B ss.length d], .string (S v)] w fun e w' => e = .returned (.tuple #[.int .u64 (x : Int), .int .i64 r]) ∧ Below w.heap.size w w' := by
  have hV := fun (w : World) hA hB => Lib.hid (verify root n es ss A B c d w hn hm hes hsm hA hB _ rfl)
  have hT := fun (w : World) hA => Lib.hid (treeSet_any A c es n v w hm hes hn hv hc hA)
  obtain ⟨k0, k1, k2⟩ := PBox.new w n A B es.length c ss.length d 26
  by_cases h0 : verr root n es ss = 0
  · by_cases h1 : setErr es n v = 0
    · have e1 : afterErr root n es ss v = 0 := (afterErr_ok _ _ _ _ _).2 ⟨h0, h1⟩
      rw [e1] at hr
      rw [afterAns, if_pos e1] at hx
      have hp := setTo_pgood ((verr_ok _ _ _ _).1 h0).1 h1
      have hR := fun (D : Option Addr) (f : Nat) (w : World) hA hB => Lib.hid (proofRoot_yes n (setTo n v es) ss D B f d w hp hA hB x hx)
      rw [h0] at hV
      rw [setRes, if_pos h1, h1] at hT
      generalize setTo n v es = T at *
      subst hr
      clear h0 h1 e1 hx hp hn hm hes hsm hc hv
      go_enter Try.func13, Try.ntmps13
      go_wp2_with fail
      refine (hV _ (hA.alloc _) (hB.alloc _)).out.mono ?_
      rintro e w1 ⟨rfl, hb1⟩
      have hx1 := (PBox.mk k0 k1 k2).below hb1
      have hb01 : Below w.heap.size w w1 := below_chain ((Below.refl _ _).alloc (Nat.le_refl _) _) hb1
      clear k0 k1 k2
      obtain ⟨k0, k1, k2⟩ := hx1
      go_wp2_with fail
      refine (hT _ (hA.below hb01)).out.mono ?_
      rintro e w2 ⟨D, f, rfl, hf, hD, hb2⟩
      have hx1 := (PBox.mk k0 k1 k2).below hb2
      have hb02 := below_chain hb01 hb2
      clear k0 k1 k2
      obtain ⟨k0, k1, k2⟩ := hx1
      go_wp2_with fail
      refine (hR D f _ hD (hB.below hb02)).out.mono ?_
      rintro e w3 ⟨rfl, hb3⟩
      go_wp2
      go_ret2
      exact ⟨rfl, below_chain hb02 hb3⟩
    · have e1 : ¬ afterErr root n es ss v = 0 := fun e => h1 ((afterErr_ok _ _ _ _ _).1 e).2
      rw [afterAns, if_neg e1] at hx
      rw [afterErr, if_pos h0] at hr
      rw [h0] at hV
      rw [setRes, if_neg h1, hr] at hT
      have c1 : (r == 0) = false := beq_eq_false_iff_ne.2 (by rw [← hr]; exact h1)
      subst hx
      clear h0 h1 e1 hr hn hm hes hsm hc hv
      go_enter Try.func13, Try.ntmps13
      go_wp2_with fail
      refine (hV _ (hA.alloc _) (hB.alloc _)).out.mono ?_
      rintro e w1 ⟨rfl, hb1⟩
      have hx1 := (PBox.mk k0 k1 k2).below hb1
      have hb01 : Below w.heap.size w w1 := below_chain ((Below.refl _ _).alloc (Nat.le_refl _) _) hb1
      clear k0 k1 k2
      obtain ⟨k0, k1, k2⟩ := hx1
      go_wp2_with fail
      refine (hT _ (hA.below hb01)).out.mono ?_
      rintro e w2 ⟨D, f, rfl, hf, hD, hb2⟩
      go_wp2
      go_ret2
      exact ⟨rfl, below_chain hb01 hb2⟩
  · have e1 : ¬ afterErr root n es ss v = 0 := fun e => h0 ((afterErr_ok _ _ _ _ _).1 e).1
    rw [afterAns, if_neg e1] at hx
    rw [afterErr, if_neg h0] at hr
    rw [hr] at hV
    have c1 : (r == 0) = false := beq_eq_false_iff_ne.2 (by rw [← hr]; exact h0)
    subst hx
    clear h0 e1 hr hn hm hes hsm hc hv hT
    go_enter Try.func13, Try.ntmps13
    go_wp2_with fail
    refine (hV _ (hA.alloc _) (hB.alloc _)).out.mono ?_
    rintro e w1 ⟨rfl, hb1⟩
    go_wp2
    go_ret2
    exact ⟨rfl, below_chain ((Below.refl _ _).alloc (Nat.le_refl _) _) hb1⟩
end Go.Proofs.Ytdibccebaaagoaa
