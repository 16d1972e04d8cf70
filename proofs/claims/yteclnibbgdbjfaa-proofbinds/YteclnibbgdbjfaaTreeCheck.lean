/- package tree: pathOf and key return the path of a name and the string by which names are ordered; Check returns the first error of a book. They write nothing that was there. -/
import Derived.Test.YteclnibbgdbjfaaBooks
import Derived.Test.YteclnibbgdbjfaaPathOf
import Derived.Test.YteclnibbgdbjfaaOwn
import Derived.Sort.Walk0
namespace Go.Proofs.Yteclnibbgdbjfaa
open Go.RowKit

set_option maxHeartbeats 400000 in
theorem treePath (l : Bytes) (w : World) (h : Bin.name l = true) :
    Calls Try.prog 55 #[.string (S l)] w fun e w' => e = .returned (.string (S (Bin.of l))) ∧ Below w.heap.size w w' := by
  have h1 := fun w => Lib.hid (pathOf_yes l w h)
  clear h
  generalize Bin.of l = p at *
  go_enter Try.func55, Try.ntmps55
  go_wp2_with fail
  refine (h1 _).out.mono ?_
  rintro e w1 ⟨rfl, hb⟩
  go_wp2
  go_ret
  exact ⟨rfl, hb⟩

set_option maxHeartbeats 400000 in
theorem treeKey (l : Bytes) (w : World) (h : Bin.name l = true) :
    Calls Try.prog 60 #[.string (S l)] w fun e w' => e = .returned (.string (S (Bin.key l))) ∧ Below w.heap.size w w' := by
  have h1 := fun w => Lib.hid (treePath l w h)
  have hn := Bin.name_len h
  have hl := Bin.of_length l
  have HK : Hid (Bin.key l = Bin.of l ++ l) := rfl
  clear h
  generalize Bin.key l = q at *
  generalize Bin.of l = p at *
  go_enter Try.func60, Try.ntmps60
  go_wp2_with fail
  refine (h1 _).out.mono ?_
  rintro e w1 ⟨rfl, hb⟩
  go_wp2
  go_ret
  exact ⟨by rw [HK.out]; rfl, hb⟩

/-- The string before, for the first entry the empty one. -/
def prevK : Option Bytes → Bytes
  | none => []
  | some y => Bin.key y
theorem badAfter_key (p : Option Bytes) (x : Bytes) : badAfter p x = !Op.bytesLess (prevK p) (Bin.key x) := by
  rw [bytesLess_eq]
  cases p with
  | some y => rfl
  | none =>
    rw [badAfter, prevK]
    have : ([] : Bytes) < Bin.key x := by
      have := Bin.key_length x
      cases hk : Bin.key x with
      | nil => rw [hk] at this; simp at this; omega
      | cons c cs => exact List.nil_lt_cons c cs
    rw [decide_eq_true this]; rfl

theorem less_yes {a b : Bytes} (h : Op.bytesLess a b = true) : Op.bytesLess b a = false ∧ (b == a) = false := by
  rw [bytesLess_eq] at h ⊢
  have h := of_decide_eq_true h
  exact ⟨decide_eq_false fun k => Bin.bs_lt_irrefl _ (Bin.bs_lt_trans h k), beq_eq_false_iff_ne.2 fun e => Bin.bs_lt_irrefl a (by rw [e] at h; exact h)⟩
theorem less_no {a b : Bytes} (h : Op.bytesLess a b = false) : Op.bytesLess b a = true ∨ Op.bytesLess b a = false ∧ (b == a) = true := by
  rw [bytesLess_eq] at h ⊢
  have h := of_decide_eq_false h
  by_cases e : b = a
  · subst e
    exact .inr ⟨decide_eq_false (Bin.bs_lt_irrefl _), beq_self_eq_true _⟩
  · exact .inl (decide_eq_true (Bin.bs_lt_of_le_ne (Bin.bs_le_of_not h) e))

set_option maxRecDepth 100000 in
set_option maxHeartbeats 800000 in
theorem treeCheck (A : Option Addr) (c : Nat) (es : List Ent) (w : World) (hm : es.length ≤ maxLen) (hes : ∀ x ∈ es, x.1.length ≤ maxLen ∧ x.2.length ≤ maxLen) (hA : Row w A (encells es)) (r : Int) (hr : fault es = r) :
    Calls Try.prog 45 #[.slice A es.length c] w fun e w' => e = .returned (.int .i64 r) ∧ Below w.heap.size w w' := by
  unfold maxLen at hm
  by_cases h24 : 24 < es.length
  · have HR : Hid (r = 2) := by
      show r = 2
      rw [← hr, fault, if_pos h24]
    have c1 : decide ((24 : Int) < (es.length : Int)) = true := decide_eq_true (by omega)
    clear hr h24
    go_enter Try.func45, Try.ntmps45
    go_wp2
    go_ret
    exact ⟨by rw [HR.out]; rfl, Below.refl _ _⟩
  · have HR : Hid (r = faultFrom none es) := by
      show r = _
      rw [← hr, fault, if_neg h24]
    have c1 : decide ((24 : Int) < (es.length : Int)) = false := decide_eq_false (by omega)
    have HE := Lib.hid hes
    clear hr h24 hes
    go_enter Try.func45, Try.ntmps45
    go_wp2
    go_loopw [3, 12] (fun pv i wr => ∃ k : Nat, k ≤ es.length ∧ i = .int .i64 k ∧ pv = .string (S (prevK (prevN es k))) ∧ Hid (r = faultFrom (prevN es k) (es.drop k)) ∧ Below w.heap.size w wr) (fun _ i _ => es.length - (intOf i).toNat)
    case atStart => exact ⟨0, Nat.zero_le _, rfl, rfl, HR.out, Below.refl _ _⟩
    case round =>
      obtain ⟨k, hk, rfl, rfl, HS, hbl⟩ := hrel
      have hsz := hbl.size
      clear c1
      by_cases hlt : k < es.length
      · obtain ⟨g, off, rfl, h1, h2⟩ := (hA.below hbl).ent k hlt
        have hi0 : (0 : Int) ≤ (k : Int) := by omega
        have hi1 : (k : Int) < (es.length : Int) := by omega
        obtain ⟨hx1, hx2⟩ := HE.out _ (List.getElem_mem hlt)
        have HS' : Hid (r = if Bin.name es[k].1 = false then 3 else if 20 < es[k].2.length then 2 else if badAfter (prevN es k) es[k].1 = true then 3 else faultFrom (prevN es (k + 1)) (es.drop (k + 1))) := by
          show r = _
          rw [HS.out, List.drop_eq_getElem_cons hlt]
          rw [faultFrom, prevN, List.getElem?_eq_getElem hlt]
          rfl
        have hG := fun w => Lib.hid (pathName es[k].1 w hx1 _ rfl)
        cases hnm : Bin.name es[k].1 with
        | false =>
          rw [hnm] at hG
          have HR' : Hid (r = 3) := by
            show r = 3
            rw [HS'.out, if_pos hnm]
          clear HS HS' hnm hx1 hx2 hA
          generalize es[k].1 = a at *
          generalize es[k].2 = b at *
          generalize prevK (prevN es k) = pk at *
          go_wp2_with fail
          refine (hG _).out.mono ?_
          rintro e w1 ⟨rfl, rfl⟩
          go_wp2
          go_ret
          exact ⟨by rw [HR'.out]; rfl, hbl.alloc hsz _⟩
        | true =>
          rw [hnm] at hG
          rw [if_neg (by rw [hnm]; simp)] at HS'
          by_cases h20 : 20 < es[k].2.length
          · have c2 : decide ((20 : Int) < (es[k].2.length : Int)) = true := decide_eq_true (by omega)
            rw [if_pos h20] at HS'
            clear HS hnm hx1 hx2 hA h20
            generalize es[k].1 = a at *
            generalize es[k].2 = b at *
            generalize prevK (prevN es k) = pk at *
            go_wp2_with fail
            refine (hG _).out.mono ?_
            rintro e w1 ⟨rfl, rfl⟩
            go_wp2
            go_ret
            exact ⟨by rw [HS'.out]; rfl, hbl.alloc hsz _⟩
          · have c2 : decide ((20 : Int) < (es[k].2.length : Int)) = false := decide_eq_false (by omega)
            rw [if_neg h20, badAfter_key] at HS'
            have hK := fun w => Lib.hid (treeKey es[k].1 w hnm)
            have HN : Hid (prevK (prevN es (k + 1)) = Bin.key es[k].1) := by
              show prevK _ = _
              rw [prevN, List.getElem?_eq_getElem hlt]
              rfl
            clear HS hnm hx1 hx2 hA h20
            generalize Bin.key es[k].1 = ky at *
            generalize es[k].1 = a at *
            generalize es[k].2 = b at *
            generalize prevK (prevN es k) = pk at *
            cases hR : Op.bytesLess pk ky with
            | true =>
              rw [hR] at HS'
              rw [if_neg (by simp)] at HS'
              obtain ⟨c3, c4⟩ := less_yes hR
              clear hR
              go_wp2_with fail
              refine (hG _).out.mono ?_
              rintro e w1 ⟨rfl, rfl⟩
              go_wp2_with fail
              refine (hK _).out.mono ?_
              rintro e w2 ⟨rfl, hb2⟩
              go_wp2
              go_roundw
              case rel => exact ⟨k + 1, by omega, by go_num, by rw [HN.out], HS', below_chain (hbl.alloc hsz _) hb2⟩
              case measure => simp [intOf]; omega
            | false =>
              rw [hR] at HS'
              rw [if_pos (by simp)] at HS'
              have c34 := less_no hR
              clear hR
              rcases c34 with c3 | ⟨c3, c4⟩ <;>
              · go_wp2_with fail
                refine (hG _).out.mono ?_
                rintro e w1 ⟨rfl, rfl⟩
                go_wp2_with fail
                refine (hK _).out.mono ?_
                rintro e w2 ⟨rfl, hb2⟩
                go_wp2
                go_ret
                exact ⟨by rw [HS'.out]; rfl, below_chain (hbl.alloc hsz _) hb2⟩
      · have HR' : Hid (r = 0) := by
          show r = 0
          rw [HS.out, List.drop_eq_nil_of_le (by omega)]
          cases prevN es k <;> rfl
        go_wp2
        go_ret
        exact ⟨by rw [HR'.out]; rfl, hbl⟩
end Go.Proofs.Yteclnibbgdbjfaa
