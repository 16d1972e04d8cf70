/- package tree: find returns the place of a name in a book, and whether it is there. It writes nothing that was there. -/
import Derived.Test.YteclnibbgdbjfaaTreeCheck
import Derived.Test.YteclnibbgdbjfaaPlace
namespace Go.Proofs.Yteclnibbgdbjfaa
open Go.RowKit

set_option maxRecDepth 100000 in
set_option maxHeartbeats 800000 in
theorem treeFind (A : Option Addr) (c : Nat) (es : List Ent) (n : Bytes) (w : World) (hm : es.length ≤ 1000) (hes : ∀ x ∈ es, Bin.name x.1 = true) (hn : Bin.name n = true) (hA : Row w A (encells es)) (p : Nat) (t : Bool) (hp : place n es = p) (ht : there n es = t) :
    Calls Try.prog 50 #[.slice A es.length c, .string (S n)] w fun e w' => e = .returned (.tuple #[.int .i64 (p : Int), .bool t]) ∧ Below w.heap.size w w' := by
  have hK := fun w => Lib.hid (treeKey n w hn)
  have HE := Lib.hid hes
  have HP : Hid (p = 0 + place n (es.drop 0) ∧ t = there n (es.drop 0)) := ⟨by rw [List.drop_zero, hp, Nat.zero_add], by rw [List.drop_zero, ht]⟩
  have HR : ∀ x : Bytes, Hid (Op.bytesLess (Bin.key n) (Bin.key x) = decide (Bin.R n x)) := fun x => by show _ = _; rw [bytesLess_eq]; rfl
  clear hes hn hp ht
  generalize Bin.key n = kn at *
  go_enter Try.func50, Try.ntmps50
  go_wp2_with fail
  refine (hK _).out.mono ?_
  rintro e w1 ⟨rfl, hb1⟩
  clear hK
  go_wp2
  go_loopw [13] (fun i wr => ∃ k : Nat, k ≤ es.length ∧ i = .int .i64 k ∧ Hid (p = k + place n (es.drop k) ∧ t = there n (es.drop k)) ∧ Below w.heap.size w wr) (fun i _ => es.length - (intOf i).toNat)
  case atStart => exact ⟨0, Nat.zero_le _, rfl, HP, hb1⟩
  case round =>
    obtain ⟨k, hk, rfl, HS, hbl⟩ := hrel
    have hsz := hbl.size
    by_cases hlt : k < es.length
    · obtain ⟨g, off, rfl, h1, h2⟩ := (hA.below hbl).ent k hlt
      have hi0 : (0 : Int) ≤ (k : Int) := by omega
      have hi1 : (k : Int) < (es.length : Int) := by omega
      have hx := fun w => Lib.hid (treeKey es[k].1 w (HE.out _ (List.getElem_mem hlt)))
      have HS' : Hid ((p = k + if es[k].1 = n then 0 else if Bin.R n es[k].1 then 0 else place n (es.drop (k + 1)) + 1) ∧ t = if es[k].1 = n then true else if Bin.R n es[k].1 then false else there n (es.drop (k + 1))) := by
        have := HS.out
        rw [List.drop_eq_getElem_cons hlt, place, there] at this
        exact this
      have HRx := HR es[k].1
      clear HS hA HP hb1 HR
      by_cases he : es[k].1 = n
      · have HS2 : Hid (p = k ∧ t = true) := by
          have := HS'.out
          rw [if_pos he, if_pos he] at this
          exact this
        rw [he] at h1
        clear HS' HRx hx he
        generalize es[k].2 = b at *
        go_wp2
        go_ret2
        exact ⟨by rw [HS2.out.1, HS2.out.2]; rfl, hbl.alloc hsz _⟩
      · have c1 : (es[k].1 == n) = false := beq_eq_false_iff_ne.2 he
        by_cases hR : Bin.R n es[k].1
        · have HS2 : Hid (p = k ∧ t = false) := by
            have := HS'.out
            rw [if_neg he, if_pos hR, if_neg he, if_pos hR] at this
            exact this
          have c2 := HRx.out
          rw [decide_eq_true hR] at c2
          have c34 := less_yes c2
          clear c2
          obtain ⟨c3, c4⟩ := c34
          clear HS' HRx he hR
          generalize Bin.key es[k].1 = ky at *
          generalize es[k].1 = a at *
          generalize es[k].2 = b at *
          go_wp2_with fail
          refine (hx _).out.mono ?_
          rintro e w2 ⟨rfl, hb2⟩
          go_wp2
          go_ret2
          exact ⟨by rw [HS2.out.1, HS2.out.2]; rfl, below_chain (hbl.alloc hsz _) hb2⟩
        · have HS2 : Hid (p = k + 1 + place n (es.drop (k + 1)) ∧ t = there n (es.drop (k + 1))) := by
            have := HS'.out
            rw [if_neg he, if_neg hR, if_neg he, if_neg hR] at this
            exact ⟨by rw [this.1]; omega, this.2⟩
          have c2 := HRx.out
          rw [decide_eq_false hR] at c2
          have c34 := less_no c2
          clear c2
          clear HS' HRx he hR
          generalize Bin.key es[k].1 = ky at *
          generalize es[k].1 = a at *
          generalize es[k].2 = b at *
          rcases c34 with c3 | ⟨c3, c4⟩
          all_goals
            go_wp2_with fail
            refine (hx _).out.mono ?_
            rintro e w2 ⟨rfl, hb2⟩
            go_wp2
            go_roundw
            case rel => exact ⟨k + 1, by omega, by go_num, HS2, below_chain (hbl.alloc hsz _) hb2⟩
            case measure => simp [intOf]; omega
    · have HS2 : Hid (p = es.length ∧ t = false) := by
        have := HS.out
        rw [List.drop_eq_nil_of_le (by omega), place, there] at this
        exact ⟨by omega, this.2⟩
      clear HS HP
      go_wp2
      go_ret2
      exact ⟨by rw [HS2.out.1, HS2.out.2]; rfl, hbl⟩
end Go.Proofs.Yteclnibbgdbjfaa
