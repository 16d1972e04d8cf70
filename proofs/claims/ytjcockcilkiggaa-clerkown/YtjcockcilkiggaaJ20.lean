/- package tree: pathOf and key return the path of a name and the string by which names are ordered; Check returns the first error of a book. They write nothing that was there. -/
import Derived.Test.YtjcockcilkiggaaJ05
import Derived.Test.YtjcockcilkiggaaJ16
import Derived.Test.YtjcockcilkiggaaJ01
import Derived.Sort.Walk0
namespace Go.Proofs.Ytjcockcilkiggaa
open Go.RowKit

set_option maxHeartbeats 400000 in
theorem treePath (l : Bytes) (w : World) (h : Bin.name l = true) :
    Calls Try.prog 60 #[.string (S l)] w fun e w' => e = .returned (.string (S (Bin.of l))) ∧ Below w.heap.size w w' := by
  have h1 := fun w => Lib.hid (pathOf_yes l w h)
  clear h
  generalize Bin.of l = p at *
  go_enter Try.func60, Try.ntmps60
  go_wp2_with fail
  refine (h1 _).out.mono ?_
  rintro e w1 ⟨rfl, hb⟩
  go_wp2
  go_ret
  exact ⟨rfl, hb⟩

set_option maxHeartbeats 400000 in
theorem treeKey (l : Bytes) (w : World) (h : Bin.name l = true) :
    Calls Try.prog 51 #[.string (S l)] w fun e w' => e = .returned (.string (S (Bin.key l))) ∧ Below w.heap.size w w' := by
  have h1 := fun w => Lib.hid (treePath l w h)
  have hn := Bin.name_len h
  have hl := Bin.of_length l
  have HK : Hid (Bin.key l = Bin.of l ++ l) := rfl
  clear h
  generalize Bin.key l = q at *
  generalize Bin.of l = p at *
  go_enter Try.func51, Try.ntmps51
  go_wp2_with fail
  refine (h1 _).out.mono ?_
  rintro e w1 ⟨rfl, hb⟩
  go_wp2
  go_ret
  exact ⟨by rw [HK.out]; rfl, hb⟩

/-- The string before, for the first entry the empty one. -/
def prevK : Option Bytes → Bytes
  | none => []
  | some y => Bin.key y
theorem badAfter_key (p : Option Bytes) (x : Bytes) : badAfter p x = !Op.bytesLess (prevK p) (Bin.key x) := by
  rw [bytesLess_eq]
  cases p with
  | some y => rfl
  | none =>
    rw [badAfter, prevK]
    have : ([] : Bytes) < Bin.key x := by
      have := Bin.key_length x
      cases hk : Bin.key x with
      | nil => rw [hk] at this; simp at this; omega
      | cons c cs => exact List.nil_lt_cons c cs
    rw [decide_eq_true this]; rfl

theorem less_yes {a b : Bytes} (h : Op.bytesLess a b = true) : Op.bytesLess b a = false ∧ (b == a) = false := by
  rw [bytesLess_eq] at h ⊢
  have h := of_decide_eq_true h
  exact ⟨decide_eq_false fun k => Bin.bs_lt_irrefl _ (Bin.bs_lt_trans h k), beq_eq_false_iff_ne.2 fun e => Bin.bs_lt_irrefl a (by rw [e] at h; exact h)⟩
theorem less_no {a b : Bytes} (h : Op.bytesLess a b = false) : Op.bytesLess b a = true ∨ Op.bytesLess b a = false ∧ (b == a) = true := by
  rw [bytesLess_eq] at h ⊢
  have h := of_decide_eq_false h
  by_cases e : b = a
  · subst e
    exact .inr ⟨decide_eq_false (Bin.bs_lt_irrefl _), beq_self_eq_true _⟩
  · exact .inl (decide_eq_true (Bin.bs_lt_of_le_ne (Bin.bs_le_of_not h) e))

set_option maxRecDepth 100000 in
set_option maxHeartbeats 800000 in
theorem treeCheck (A : Option Addr) (c : Nat) (es : List Ent) (w : World) (hm : es.length ≤ maxLen) (hes : ∀ x ∈ es, x.1.length ≤ maxLen ∧ x.2.length ≤ maxLen) (hA : Row w A (encells es)) (r : Int) (hr : fault es = r) :
    Calls Try.prog 32 #[.slice A es.length c] w fun e w' => e = .returned (.int .i64 r) ∧ Below w.heap.size w w' := by
  unfold maxLen at hm
  by_cases h24 : 24 < es.length
  · have HR : Hid (r = 2) := by
      show r = 2
      rw [← hr, fault, if_pos h24]
    have c1 : decide ((24 : Int) < (es.length : Int)) = true := decide_eq_true (by omega)
    clear hr h24
    go_enter Try.func32, Try.ntmps32
    go_wp2
    go_ret
    exact ⟨by rw [HR.out]; rfl, Below.refl _ _⟩
  · have HR : Hid (r = faultFrom none es) := by
      show r = _
      rw [← hr, fault, if_neg h24]
    have c1 : decide ((24 : Int) < (es.length : Int)) = false := decide_eq_false (by omega)
    have HE := Lib.hid hes
    clear hr h24 hes
    go_enter Try.func32, Try.ntmps32
    go_wp2
    go_loopw [3, 12] (fun pv i wr => ∃ k : Nat, k ≤ es.length ∧ i = .int .i64 k ∧ pv = .string (S (prevK (prevN es k))) ∧ Hid (r = faultFrom (prevN es k) (es.drop k)) ∧ Below w.heap.size w wr) (fun _ i _ => es.length - (intOf i).toNat)
    case atStart => exact ⟨0, Nat.zero_le _, rfl, rfl, HR.out, Below.refl _ _⟩
    case round =>
      obtain ⟨k, hk, rfl, rfl, HS, hbl⟩ := hrel
      have hsz := hbl.size
      clear c1
      by_cases hlt : k < es.length
      · obtain ⟨g, off, rfl, h1, h2⟩ := (hA.below hbl).ent k hlt
        have hi0 : (0 : Int) ≤ (k : Int) := by omega
        have hi1 : (k : Int) < (es.length : Int) := by omega
        obtain ⟨hx1, hx2⟩ := HE.out _ (List.getElem_mem hlt)
        have HS' : Hid (r = if Bin.name es[k].1 = false then 3 else if 20 < es[k].2.length then 2 else if badAfter (prevN es k) es[k].1 = true then 3 else faultFrom (prevN es (k + 1)) (es.drop (k + 1))) := by
          show r = _
          rw [HS.out, List.drop_eq_getElem_cons hlt]
          rw [faultFrom, prevN, List.getElem?_eq_getElem hlt]
          rfl
        have hG := fun w => Lib.hid (pathName es[k].1 w hx1 _ rfl)
        cases hnm : Bin.name es[k].1 with
        | false =>
          rw [hnm] at hG
          have HR' : Hid (r = 3) := by
            show r = 3
            rw [HS'.out, if_pos hnm]
          clear HS HS' hnm hx1 hx2 hA
          generalize es[k].1 = a at *
          generalize es[k].2 = b at *
          generalize prevK (prevN es k) = pk at *
          go_wp2_with fail
          refine (hG _).out.mono ?_
          rintro e w1 ⟨rfl, rfl⟩
          go_wp2
          go_ret
          exact ⟨by rw [HR'.out]; rfl, hbl.alloc hsz _⟩
        | true =>
          rw [hnm] at hG
          rw [if_neg (by rw [hnm]; simp)] at HS'
          by_cases h20 : 20 < es[k].2.length
          · have c2 : decide ((20 : Int) < (es[k].2.length : Int)) = true := decide_eq_true (by omega)
            rw [if_pos h20] at HS'
            clear HS hnm hx1 hx2 hA h20
            generalize es[k].1 = a at *
            generalize es[k].2 = b at *
            generalize prevK (prevN es k) = pk at *
            go_wp2_with fail
            refine (hG _).out.mono ?_
            rintro e w1 ⟨rfl, rfl⟩
            go_wp2
            go_ret
            exact ⟨by rw [HS'.out]; rfl, hbl.alloc hsz _⟩
          · have c2 : decide ((20 : Int) < (es[k].2.length : Int)) = false := decide_eq_false (by omega)
            rw [if_neg h20, badAfter_key] at HS'
            have hK := fun w => Lib.hid (treeKey es[k].1 w hnm)
            have HN : Hid (prevK (prevN es (k + 1)) = Bin.key es[k].1) := by
              show prevK _ = _
              rw [prevN, List.getElem?_eq_getElem hlt]
              rfl
            clear HS hnm hx1 hx2 hA h20
            generalize Bin.key es[k].1 = ky at *
            generalize es[k].1 = a at *
            generalize es[k].2 = b at *
            generalize prevK (prevN es k) = pk at *
            cases hR : Op.bytesLess pk ky with
            | true =>
              rw [hR] at HS'
              rw [if_neg (by simp)] at HS'
              obtain ⟨c3, c4⟩ := less_yes hR
              clear hR
              go_wp2_with fail
              refine (hG _).out.mono ?_
              rintro e w1 ⟨rfl, rfl⟩
              go_wp2_with fail
              refine (hK _).out.mono ?_
              rintro e w2 ⟨rfl, hb2⟩
              go_wp2
              go_roundw
              case rel => exact ⟨k + 1, by omega, by go_num, by rw [HN.out], HS', below_chain (hbl.alloc hsz _) hb2⟩
              case measure => simp [intOf]; omega
            | false =>
              rw [hR] at HS'
              rw [if_pos (by simp)] at HS'
              have c34 := less_no hR
              clear hR
              rcases c34 with c3 | ⟨c3, c4⟩ <;>
              · go_wp2_with fail
                refine (hG _).out.mono ?_
                rintro e w1 ⟨rfl, rfl⟩
                go_wp2_with fail
                refine (hK _).out.mono ?_
                rintro e w2 ⟨rfl, hb2⟩
                go_wp2
                go_ret
                exact ⟨by rw [HS'.out]; rfl, below_chain (hbl.alloc hsz _) hb2⟩
      · have HR' : Hid (r = 0) := by
          show r = 0
          rw [HS.out, List.drop_eq_nil_of_le (by omega)]
          cases prevN es k <;> rfl
        go_wp2
        go_ret
        exact ⟨by rw [HR'.out]; rfl, hbl⟩
end Go.Proofs.Ytjcockcilkiggaa
/- package tree: find returns the place of a name in a book, and whether it is there. It writes nothing that was there. -/
namespace Go.Proofs.Ytjcockcilkiggaa
open Go.RowKit

set_option maxRecDepth 100000 in
set_option maxHeartbeats 800000 in
theorem treeFind (A : Option Addr) (c : Nat) (es : List Ent) (n : Bytes) (w : World) (hm : es.length ≤ 1000) (hes : ∀ x ∈ es, Bin.name x.1 = true) (hn : Bin.name n = true) (hA : Row w A (encells es)) (p : Nat) (t : Bool) (hp : place n es = p) (ht : there n es = t) :
    Calls Try.prog 34 #[.slice A es.length c, .string (S n)] w fun e w' => e = .returned (.tuple #[.int .i64 (p : Int), .bool t]) ∧ Below w.heap.size w w' := by
  have hK := fun w => Lib.hid (treeKey n w hn)
  have HE := Lib.hid hes
  have HP : Hid (p = 0 + place n (es.drop 0) ∧ t = there n (es.drop 0)) := ⟨by rw [List.drop_zero, hp, Nat.zero_add], by rw [List.drop_zero, ht]⟩
  have HR : ∀ x : Bytes, Hid (Op.bytesLess (Bin.key n) (Bin.key x) = decide (Bin.R n x)) := fun x => by show _ = _; rw [bytesLess_eq]; rfl
  clear hes hn hp ht
  generalize Bin.key n = kn at *
  go_enter Try.func34, Try.ntmps34
  go_wp2_with fail
  refine (hK _).out.mono ?_
  rintro e w1 ⟨rfl, hb1⟩
  clear hK
  go_wp2
  go_loopw [13] (fun i wr => ∃ k : Nat, k ≤ es.length ∧ i = .int .i64 k ∧ Hid (p = k + place n (es.drop k) ∧ t = there n (es.drop k)) ∧ Below w.heap.size w wr) (fun i _ => es.length - (intOf i).toNat)
  case atStart => exact ⟨0, Nat.zero_le _, rfl, HP, hb1⟩
  case round =>
    obtain ⟨k, hk, rfl, HS, hbl⟩ := hrel
    have hsz := hbl.size
    by_cases hlt : k < es.length
    · obtain ⟨g, off, rfl, h1, h2⟩ := (hA.below hbl).ent k hlt
      have hi0 : (0 : Int) ≤ (k : Int) := by omega
      have hi1 : (k : Int) < (es.length : Int) := by omega
      have hx := fun w => Lib.hid (treeKey es[k].1 w (HE.out _ (List.getElem_mem hlt)))
      have HS' : Hid ((p = k + if es[k].1 = n then 0 else if Bin.R n es[k].1 then 0 else place n (es.drop (k + 1)) + 1) ∧ t = if es[k].1 = n then true else if Bin.R n es[k].1 then false else there n (es.drop (k + 1))) := by
        have := HS.out
        rw [List.drop_eq_getElem_cons hlt, place, there] at this
        exact this
      have HRx := HR es[k].1
      clear HS hA HP hb1 HR
      by_cases he : es[k].1 = n
      · have HS2 : Hid (p = k ∧ t = true) := by
          have := HS'.out
          rw [if_pos he, if_pos he] at this
          exact this
        rw [he] at h1
        clear HS' HRx hx he
        generalize es[k].2 = b at *
        go_wp2
        go_ret2
        exact ⟨by rw [HS2.out.1, HS2.out.2]; rfl, hbl.alloc hsz _⟩
      · have c1 : (es[k].1 == n) = false := beq_eq_false_iff_ne.2 he
        by_cases hR : Bin.R n es[k].1
        · have HS2 : Hid (p = k ∧ t = false) := by
            have := HS'.out
            rw [if_neg he, if_pos hR, if_neg he, if_pos hR] at this
            exact this
          have c2 := HRx.out
          rw [decide_eq_true hR] at c2
          have c34 := less_yes c2
          clear c2
          obtain ⟨c3, c4⟩ := c34
          clear HS' HRx he hR
          generalize Bin.key es[k].1 = ky at *
          generalize es[k].1 = a at *
          generalize es[k].2 = b at *
          go_wp2_with fail
          refine (hx _).out.mono ?_
          rintro e w2 ⟨rfl, hb2⟩
          go_wp2
          go_ret2
          exact ⟨by rw [HS2.out.1, HS2.out.2]; rfl, below_chain (hbl.alloc hsz _) hb2⟩
        · have HS2 : Hid (p = k + 1 + place n (es.drop (k + 1)) ∧ t = there n (es.drop (k + 1))) := by
            have := HS'.out
            rw [if_neg he, if_neg hR, if_neg he, if_neg hR] at this
            exact ⟨by rw [this.1]; omega, this.2⟩
          have c2 := HRx.out
          rw [decide_eq_false hR] at c2
          have c34 := less_no c2
          clear c2
          clear HS' HRx he hR
          generalize Bin.key es[k].1 = ky at *
          generalize es[k].1 = a at *
          generalize es[k].2 = b at *
          rcases c34 with c3 | ⟨c3, c4⟩
          all_goals
            go_wp2_with fail
            refine (hx _).out.mono ?_
            rintro e w2 ⟨rfl, hb2⟩
            go_wp2
            go_roundw
            case rel => exact ⟨k + 1, by omega, by go_num, HS2, below_chain (hbl.alloc hsz _) hb2⟩
            case measure => simp [intOf]; omega
    · have HS2 : Hid (p = es.length ∧ t = false) := by
        have := HS.out
        rw [List.drop_eq_nil_of_le (by omega), place, there] at this
        exact ⟨by omega, this.2⟩
      clear HS HP
      go_wp2
      go_ret2
      exact ⟨by rw [HS2.out.1, HS2.out.2]; rfl, hbl⟩
end Go.Proofs.Ytjcockcilkiggaa
/- package tree: Get returns the value of a name in a book, and whether it is there. It writes nothing that was there. -/
namespace Go.Proofs.Ytjcockcilkiggaa
open Go.RowKit

/-- The first error of a book and a name. -/
def askErr (es : List Ent) (n : Bytes) : Int := if fault es = 0 then (if Bin.name n = true then 0 else 3) else fault es
theorem askErr_ok (es : List Ent) (n : Bytes) : askErr es n = 0 ↔ Good es ∧ Bin.name n = true := by
  unfold askErr
  rw [← fault_ok]
  by_cases h : fault es = 0
  · rw [if_pos h]
    by_cases h2 : Bin.name n = true <;> simp [h, h2]
  · rw [if_neg h]
    simp [h]

set_option maxRecDepth 100000 in
set_option maxHeartbeats 800000 in
theorem treeGet_no (A : Option Addr) (c : Nat) (es : List Ent) (n : Bytes) (w : World) (hm : es.length ≤ maxLen) (hes : ∀ x ∈ es, x.1.length ≤ maxLen ∧ x.2.length ≤ maxLen) (hn : n.length ≤ maxLen) (hA : Row w A (encells es)) (r : Int) (hr : askErr es n = r) (h0 : r ≠ 0) :
    Calls Try.prog 13 #[.slice A es.length c, .string (S n)] w fun e w' => e = .returned (.tuple #[.string (S []), .bool false, .int .i64 r]) ∧ Below w.heap.size w w' := by
  have hC := fun (w : World) hA => Lib.hid (treeCheck A c es w hm hes hA _ rfl)
  have hN := fun w => Lib.hid (pathName n w hn _ rfl)
  by_cases hf : fault es = 0
  · rw [askErr, if_pos hf] at hr
    cases hnm : Bin.name n with
    | true => rw [hnm, if_pos rfl] at hr; exact absurd hr.symm h0
    | false =>
      rw [hnm, if_neg (by simp)] at hr
      rw [hf] at hC
      rw [hnm] at hN
      subst hr
      clear hf hnm h0 hm hes hn
      go_enter Try.func13, Try.ntmps13
      go_wp2_with fail
      refine (hC _ hA).out.mono ?_
      rintro e w1 ⟨rfl, hb1⟩
      go_wp2_with fail
      refine (hN _).out.mono ?_
      rintro e w2 ⟨rfl, rfl⟩
      go_wp2
      go_ret3
      exact ⟨rfl, hb1⟩
  · rw [askErr, if_neg hf] at hr
    rw [hr] at hC
    have c1 : (r == 0) = false := beq_eq_false_iff_ne.2 h0
    clear hf h0 hm hes hn hN hr
    go_enter Try.func13, Try.ntmps13
    go_wp2_with fail
    refine (hC _ hA).out.mono ?_
    rintro e w1 ⟨rfl, hb1⟩
    go_wp2
    go_ret3
    exact ⟨rfl, hb1⟩

theorem small_of_good {es : List Ent} (h : Good es) : es.length ≤ maxLen ∧ ∀ x ∈ es, x.1.length ≤ maxLen ∧ x.2.length ≤ maxLen := by
  refine ⟨?_, fun x hx => ⟨?_, ?_⟩⟩
  · have := h.len; unfold maxLen; omega
  · have := Bin.name_len (h.name x hx); unfold maxLen; omega
  · have := h.value x hx; unfold maxLen; omega
theorem small_of_name {n : Bytes} (h : Bin.name n = true) : n.length ≤ maxLen := by
  have := Bin.name_len h; unfold maxLen; omega

set_option maxRecDepth 100000 in
set_option maxHeartbeats 800000 in
theorem treeGet_yes (A : Option Addr) (c : Nat) (es : List Ent) (n : Bytes) (w : World) (hg : Good es) (hn : Bin.name n = true) (hA : Row w A (encells es)) (o : Option Bytes) (ho : stands es n = o) :
    Calls Try.prog 13 #[.slice A es.length c, .string (S n)] w fun e w' => e = .returned (.tuple #[.string (S (o.getD [])), .bool o.isSome, .int .i64 0]) ∧ Below w.heap.size w w' := by
  obtain ⟨hm, hes⟩ := small_of_good hg
  have hC := fun (w : World) hA => Lib.hid (treeCheck A c es w hm hes hA _ ((fault_ok es).2 hg))
  have hN := fun w => Lib.hid (pathName n w (small_of_name hn) _ hn)
  have hF := fun (w : World) hA => Lib.hid (treeFind A c es n w (by have := hg.len; omega) hg.name hn hA _ _ rfl rfl)
  have hts := there_stands n es hg.order
  cases hth : there n es with
  | true =>
    obtain ⟨hp, -, hst⟩ := there_get n es hg.order hth
    rw [hth] at hF
    rw [hst] at ho
    have HV : Hid (o.getD [] = es[place n es].2 ∧ o.isSome = true) := by rw [← ho]; exact ⟨rfl, rfl⟩
    have hRow := fun w (h : Row w A (encells es)) => h.ent _ hp
    generalize place n es = p at *
    have hi0 : (0 : Int) ≤ (p : Int) := by omega
    have hi1 : (p : Int) < (es.length : Int) := by omega
    have hl := hg.len
    clear hg hn hm hes hts hth hst ho
    go_enter Try.func13, Try.ntmps13
    go_wp2_with fail
    refine (hC _ hA).out.mono ?_
    rintro e w1 ⟨rfl, hb1⟩
    go_wp2_with fail
    refine (hN _).out.mono ?_
    rintro e w2 ⟨rfl, rfl⟩
    go_wp2_with fail
    refine (hF _ (hA.below hb1)).out.mono ?_
    rintro e w3 ⟨rfl, hb3⟩
    have hb := below_chain hb1 hb3
    obtain ⟨g, off, rfl, h1, h2⟩ := hRow _ (hA.below hb)
    clear hC hN hF hRow hA
    generalize es[p].1 = a at *
    generalize es[p].2 = b at *
    go_wp2
    go_ret3
    exact ⟨by rw [HV.out.1, HV.out.2]; rfl, hb⟩
  | false =>
    rw [hth] at hF
    rw [hth, ho] at hts
    have HV : Hid (o = none) := by
      show o = none
      cases o with
      | none => rfl
      | some v => cases hts
    generalize place n es = p at *
    clear hg hn hm hes hts hth ho
    go_enter Try.func13, Try.ntmps13
    go_wp2_with fail
    refine (hC _ hA).out.mono ?_
    rintro e w1 ⟨rfl, hb1⟩
    go_wp2_with fail
    refine (hN _).out.mono ?_
    rintro e w2 ⟨rfl, rfl⟩
    go_wp2_with fail
    refine (hF _ (hA.below hb1)).out.mono ?_
    rintro e w3 ⟨rfl, hb3⟩
    have hb := below_chain hb1 hb3
    clear hC hN hF hA
    go_wp2
    go_ret3
    exact ⟨by rw [HV.out]; rfl, hb⟩
end Go.Proofs.Ytjcockcilkiggaa
