/- package tree: At returns the hash of a prefix in a book, Root that of the empty prefix. They write nothing that was there. -/
import Derived.Test.YtmmmolbejfdamaaTreeHash
import Derived.Test.YtmmmolbejfdamaaTreeUnder
namespace Go.Proofs.Ytmmmolbejfdamaa
open Go.RowKit

def goodPre (q : Bytes) : Bool := q.all Bin.bitByte && decide (q.length ≤ 16)
/-- The first error of At. -/
def atErr (es : List Ent) (q : Bytes) : Int := if fault es = 0 then (if goodPre q = true then 0 else 3) else fault es
theorem atErr_ok (es : List Ent) (q : Bytes) : atErr es q = 0 ↔ Good es ∧ goodPre q = true := by
  unfold atErr
  rw [← fault_ok]
  by_cases h : fault es = 0
  · rw [if_pos h]
    by_cases h2 : goodPre q = true <;> simp [h, h2]
  · rw [if_neg h]
    simp [h]
theorem goodPre_len {q : Bytes} (h : goodPre q = true) : q.length ≤ 16 := by
  unfold goodPre at h
  rw [Bool.and_eq_true] at h
  exact of_decide_eq_true h.2

set_option maxRecDepth 100000 in
set_option maxHeartbeats 800000 in
theorem treeAt_no (A : Option Addr) (c : Nat) (es : List Ent) (q : Bytes) (w : World) (hm : es.length ≤ maxLen) (hes : ∀ x ∈ es, x.1.length ≤ maxLen ∧ x.2.length ≤ maxLen) (hn : q.length ≤ maxLen) (hA : Row w A (encells es)) (r : Int) (hr : atErr es q = r) (h0 : r ≠ 0) :
    Calls Try.prog 43 #[.slice A es.length c, .string (S q)] w fun e w' => e = .returned (.tuple #[.int .u64 0, .int .i64 r]) ∧ Below w.heap.size w w' := by
  have hC := fun (w : World) hA => Lib.hid (treeCheck A c es w hm hes hA _ rfl)
  have hN := fun w => Lib.hid (treeIsPrefix q w hn (goodPre q) rfl)
  by_cases hf : fault es = 0
  · rw [atErr, if_pos hf] at hr
    cases hnm : goodPre q with
    | true => rw [hnm, if_pos rfl] at hr; exact absurd hr.symm h0
    | false =>
      rw [hnm, if_neg (by simp)] at hr
      rw [hf] at hC
      rw [hnm] at hN
      subst hr
      clear hf hnm h0 hm hes hn
      go_enter Try.func43, Try.ntmps43
      go_wp2_with fail
      refine (hC _ hA).out.mono ?_
      rintro e w1 ⟨rfl, hb1⟩
      go_wp2_with fail
      refine (hN _).out.mono ?_
      rintro e w2 ⟨rfl, rfl⟩
      go_wp2
      go_ret2
      exact ⟨rfl, hb1⟩
  · rw [atErr, if_neg hf] at hr
    rw [hr] at hC
    have c1 : (r == 0) = false := beq_eq_false_iff_ne.2 h0
    clear hf h0 hm hes hn hN hr
    go_enter Try.func43, Try.ntmps43
    go_wp2_with fail
    refine (hC _ hA).out.mono ?_
    rintro e w1 ⟨rfl, hb1⟩
    go_wp2
    go_ret2
    exact ⟨rfl, hb1⟩

theorem good_5 {es : List Ent} (hg : Good es) : ∀ x ∈ es, x.1.length + x.2.length ≤ 596 := fun x hx => by
  have h1 := (Bin.name_len (hg.name x hx)).2
  have h2 := hg.value x hx
  omega
theorem mem_und {q : Bytes} {es : List Ent} {x : Ent} (h : x ∈ und q es) : x ∈ es := (List.mem_filter.1 h).1

set_option maxRecDepth 100000 in
set_option maxHeartbeats 800000 in
theorem treeAt_yes (A : Option Addr) (c : Nat) (es : List Ent) (q : Bytes) (w : World) (hg : Good es) (hq : goodPre q = true) (hA : Row w A (encells es)) (x : Nat) (hx : prefMark es q = x) :
    Calls Try.prog 43 #[.slice A es.length c, .string (S q)] w fun e w' => e = .returned (.tuple #[.int .u64 (x : Int), .int .i64 0]) ∧ Below w.heap.size w w' := by
  obtain ⟨hm, hes⟩ := small_of_good hg
  have hq16 := goodPre_len hq
  have hC := fun (w : World) hA => Lib.hid (treeCheck A c es w hm hes hA _ ((fault_ok es).2 hg))
  have hN := fun w => Lib.hid (treeIsPrefix q w (by unfold maxLen; omega) true hq)
  have hl := hg.len
  have hU := fun (w : World) hA => Lib.hid (treeUnder A c es q w (by omega) hg.name (by omega) hA)
  have hle := und_le q es
  have hH := fun (A B : Option Addr) (c d : Nat) (w : World) (hc : (und q es).length ≤ c) (hd : (und q es).length ≤ d) hA hB => Lib.hid (hash_all (16 - q.length) q (und q es) A B c d _ _ w (by omega) rfl rfl (by omega) hc hd (fun y hy => good_5 hg y (mem_und hy)) (und_begins q es) (und_order q hg.order) hA hB x (by rw [prefMark_und]; exact hx))
  generalize und q es = L at *
  clear hg hq hm hes hx
  go_enter Try.func43, Try.ntmps43
  go_wp2_with fail
  refine (hC _ hA).out.mono ?_
  rintro e w1 ⟨rfl, hb1⟩
  go_wp2_with fail
  refine (hN _).out.mono ?_
  rintro e w2 ⟨rfl, rfl⟩
  go_wp2_with fail
  refine (hU _ (hA.below hb1)).out.mono ?_
  rintro e w3 ⟨A3, c3, B3, d3, rfl, hc3, hd3, hA3, hB3, hb3⟩
  go_wp2_with fail
  refine (hH A3 B3 c3 d3 _ hc3 hd3 hA3 hB3).out.mono ?_
  rintro e w4 ⟨rfl, hb4⟩
  go_wp2
  go_ret2
  exact ⟨rfl, below_chain (below_chain hb1 hb3) hb4⟩

set_option maxHeartbeats 400000 in
theorem treeRoot_no (A : Option Addr) (c : Nat) (es : List Ent) (w : World) (hm : es.length ≤ maxLen) (hes : ∀ x ∈ es, x.1.length ≤ maxLen ∧ x.2.length ≤ maxLen) (hA : Row w A (encells es)) (r : Int) (hr : fault es = r) (h0 : r ≠ 0) :
    Calls Try.prog 21 #[.slice A es.length c] w fun e w' => e = .returned (.tuple #[.int .u64 0, .int .i64 r]) ∧ Below w.heap.size w w' := by
  have hT := fun (w : World) hA => Lib.hid (treeAt_no A c es [] w hm hes (by simp) hA r (by rw [atErr, if_neg (by rw [hr]; exact h0)]; exact hr) h0)
  clear hm hes hr h0
  go_enter Try.func21, Try.ntmps21
  go_wp2_with fail
  refine (hT _ hA).out.mono ?_
  rintro e w1 ⟨rfl, hb1⟩
  go_wp2
  go_ret2
  exact ⟨rfl, hb1⟩

set_option maxHeartbeats 400000 in
theorem treeRoot_yes (A : Option Addr) (c : Nat) (es : List Ent) (w : World) (hg : Good es) (hA : Row w A (encells es)) (x : Nat) (hx : prefMark es [] = x) :
    Calls Try.prog 21 #[.slice A es.length c] w fun e w' => e = .returned (.tuple #[.int .u64 (x : Int), .int .i64 0]) ∧ Below w.heap.size w w' := by
  have hT := fun (w : World) hA => Lib.hid (treeAt_yes A c es [] w hg rfl hA x hx)
  clear hg hx
  go_enter Try.func21, Try.ntmps21
  go_wp2_with fail
  refine (hT _ hA).out.mono ?_
  rintro e w1 ⟨rfl, hb1⟩
  go_wp2
  go_ret2
  exact ⟨rfl, hb1⟩
end Go.Proofs.Ytmmmolbejfdamaa
