/- package tree: pathOf and key return the path of a name and the string by which names are ordered; Check returns the first error of a book. They write nothing that was there. -/
import Derived.Test.YtjcockcilkiggaaGreatJ06
import Derived.Test.YtjcockcilkiggaaGreatJ18
import Derived.Test.YtjcockcilkiggaaGreatJ01
import Derived.Sort.Walk0
import Derived.Test.YtjcockcilkiggaaGreatJ03
namespace Go.Proofs.YtjcockcilkiggaaGreat
open Go.RowKit

set_option maxHeartbeats 400000 in
theorem treePath (l : Bytes) (w : World) (h : Bin.name l = true) :
    Calls Tryz.prog 80 #[.string (S l)] w fun e w' => e = .returned (.string (S (Bin.of l))) ∧ Below w.heap.size w w' := by
  have h1 := fun w => Lib.hid (pathOf_yes l w h)
  clear h
  generalize Bin.of l = p at *
  go_enter Tryz.func80, Tryz.ntmps80
  go_wp2_with fail
  refine (h1 _).out.mono ?_
  rintro e w1 ⟨rfl, hb⟩
  go_wp2
  go_ret
  exact ⟨rfl, hb⟩

set_option maxHeartbeats 400000 in
theorem treeKey (l : Bytes) (w : World) (h : Bin.name l = true) :
    Calls Tryz.prog 79 #[.string (S l)] w fun e w' => e = .returned (.string (S (Bin.key l))) ∧ Below w.heap.size w w' := by
  have h1 := fun w => Lib.hid (treePath l w h)
  have hn := Bin.name_len h
  have hl := Bin.of_length l
  have HK : Hid (Bin.key l = Bin.of l ++ l) := rfl
  clear h
  generalize Bin.key l = q at *
  generalize Bin.of l = p at *
  go_enter Tryz.func79, Tryz.ntmps79
  go_wp2_with fail
  refine (h1 _).out.mono ?_
  rintro e w1 ⟨rfl, hb⟩
  go_wp2
  go_ret
  exact ⟨by rw [HK.out]; rfl, hb⟩

/-- The string before, for the first entry the empty one. -/
def prevK : Option Bytes → Bytes
  | none => []
  | some y => Bin.key y
theorem badAfter_key (p : Option Bytes) (x : Bytes) : badAfter p x = !Op.bytesLess (prevK p) (Bin.key x) := by
  rw [bytesLess_eq]
  cases p with
  | some y => rfl
  | none =>
    rw [badAfter, prevK]
    have : ([] : Bytes) < Bin.key x := by
      have := Bin.key_length x
      cases hk : Bin.key x with
      | nil => rw [hk] at this; simp at this; omega
      | cons c cs => exact List.nil_lt_cons c cs
    rw [decide_eq_true this]; rfl

theorem less_yes {a b : Bytes} (h : Op.bytesLess a b = true) : Op.bytesLess b a = false ∧ (b == a) = false := by
  rw [bytesLess_eq] at h ⊢
  have h := of_decide_eq_true h
  exact ⟨decide_eq_false fun k => Bin.bs_lt_irrefl _ (Bin.bs_lt_trans h k), beq_eq_false_iff_ne.2 fun e => Bin.bs_lt_irrefl a (by rw [e] at h; exact h)⟩
theorem less_no {a b : Bytes} (h : Op.bytesLess a b = false) : Op.bytesLess b a = true ∨ Op.bytesLess b a = false ∧ (b == a) = true := by
  rw [bytesLess_eq] at h ⊢
  have h := of_decide_eq_false h
  by_cases e : b = a
  · subst e
    exact .inr ⟨decide_eq_false (Bin.bs_lt_irrefl _), beq_self_eq_true _⟩
  · exact .inl (decide_eq_true (Bin.bs_lt_of_le_ne (Bin.bs_le_of_not h) e))

set_option maxRecDepth 100000 in
set_option maxHeartbeats 800000 in
theorem treeCheck (A : Option Addr) (c : Nat) (es : List Ent) (w : World) (hm : es.length ≤ maxLen) (hes : ∀ x ∈ es, x.1.length ≤ maxLen ∧ x.2.length ≤ maxLen) (hA : Row w A (encells es)) (r : Int) (hr : fault es = r) :
    Calls Tryz.prog 65 #[.slice A es.length c] w fun e w' => e = .returned (.int .i64 r) ∧ Below w.heap.size w w' := by
  unfold maxLen at hm
  by_cases h24 : 24 < es.length
  · have HR : Hid (r = 2) := by
      show r = 2
      rw [← hr, fault, if_pos h24]
    have c1 : decide ((24 : Int) < (es.length : Int)) = true := decide_eq_true (by omega)
    clear hr h24
    go_enter Tryz.func65, Tryz.ntmps65
    go_wp2
    go_ret
    exact ⟨by rw [HR.out]; rfl, Below.refl _ _⟩
  · have HR : Hid (r = faultFrom none es) := by
      show r = _
      rw [← hr, fault, if_neg h24]
    have c1 : decide ((24 : Int) < (es.length : Int)) = false := decide_eq_false (by omega)
    have HE := Lib.hid hes
    clear hr h24 hes
    go_enter Tryz.func65, Tryz.ntmps65
    go_wp2
    go_loopw [3, 12] (fun pv i wr => ∃ k : Nat, k ≤ es.length ∧ i = .int .i64 k ∧ pv = .string (S (prevK (prevN es k))) ∧ Hid (r = faultFrom (prevN es k) (es.drop k)) ∧ Below w.heap.size w wr) (fun _ i _ => es.length - (intOf i).toNat)
    case atStart => exact ⟨0, Nat.zero_le _, rfl, rfl, HR.out, Below.refl _ _⟩
    case round =>
      obtain ⟨k, hk, rfl, rfl, HS, hbl⟩ := hrel
      have hsz := hbl.size
      clear c1
      by_cases hlt : k < es.length
      · obtain ⟨g, off, rfl, h1, h2⟩ := (hA.below hbl).ent k hlt
        have hi0 : (0 : Int) ≤ (k : Int) := by omega
        have hi1 : (k : Int) < (es.length : Int) := by omega
        obtain ⟨hx1, hx2⟩ := HE.out _ (List.getElem_mem hlt)
        have HS' : Hid (r = if Bin.name es[k].1 = false then 3 else if 20 < es[k].2.length then 2 else if badAfter (prevN es k) es[k].1 = true then 3 else faultFrom (prevN es (k + 1)) (es.drop (k + 1))) := by
          show r = _
          rw [HS.out, List.drop_eq_getElem_cons hlt]
          rw [faultFrom, prevN, List.getElem?_eq_getElem hlt]
          rfl
        have hG := fun w => Lib.hid (pathName es[k].1 w hx1 _ rfl)
        cases hnm : Bin.name es[k].1 with
        | false =>
          rw [hnm] at hG
          have HR' : Hid (r = 3) := by
            show r = 3
            rw [HS'.out, if_pos hnm]
          clear HS HS' hnm hx1 hx2 hA
          generalize es[k].1 = a at *
          generalize es[k].2 = b at *
          generalize prevK (prevN es k) = pk at *
          go_wp2_with fail
          refine (hG _).out.mono ?_
          rintro e w1 ⟨rfl, rfl⟩
          go_wp2
          go_ret
          exact ⟨by rw [HR'.out]; rfl, hbl.alloc hsz _⟩
        | true =>
          rw [hnm] at hG
          rw [if_neg (by rw [hnm]; simp)] at HS'
          by_cases h20 : 20 < es[k].2.length
          · have c2 : decide ((20 : Int) < (es[k].2.length : Int)) = true := decide_eq_true (by omega)
            rw [if_pos h20] at HS'
            clear HS hnm hx1 hx2 hA h20
            generalize es[k].1 = a at *
            generalize es[k].2 = b at *
            generalize prevK (prevN es k) = pk at *
            go_wp2_with fail
            refine (hG _).out.mono ?_
            rintro e w1 ⟨rfl, rfl⟩
            go_wp2
            go_ret
            exact ⟨by rw [HS'.out]; rfl, hbl.alloc hsz _⟩
          · have c2 : decide ((20 : Int) < (es[k].2.length : Int)) = false := decide_eq_false (by omega)
            rw [if_neg h20, badAfter_key] at HS'
            have hK := fun w => Lib.hid (treeKey es[k].1 w hnm)
            have HN : Hid (prevK (prevN es (k + 1)) = Bin.key es[k].1) := by
              show prevK _ = _
              rw [prevN, List.getElem?_eq_getElem hlt]
              rfl
            clear HS hnm hx1 hx2 hA h20
            generalize Bin.key es[k].1 = ky at *
            generalize es[k].1 = a at *
            generalize es[k].2 = b at *
            generalize prevK (prevN es k) = pk at *
            cases hR : Op.bytesLess pk ky with
            | true =>
              rw [hR] at HS'
              rw [if_neg (by simp)] at HS'
              obtain ⟨c3, c4⟩ := less_yes hR
              clear hR
              go_wp2_with fail
              refine (hG _).out.mono ?_
              rintro e w1 ⟨rfl, rfl⟩
              go_wp2_with fail
              refine (hK _).out.mono ?_
              rintro e w2 ⟨rfl, hb2⟩
              go_wp2
              go_roundw
              case rel => exact ⟨k + 1, by omega, by go_num, by rw [HN.out], HS', below_chain (hbl.alloc hsz _) hb2⟩
              case measure => simp [intOf]; omega
            | false =>
              rw [hR] at HS'
              rw [if_pos (by simp)] at HS'
              have c34 := less_no hR
              clear hR
              rcases c34 with c3 | ⟨c3, c4⟩ <;>
              · go_wp2_with fail
                refine (hG _).out.mono ?_
                rintro e w1 ⟨rfl, rfl⟩
                go_wp2_with fail
                refine (hK _).out.mono ?_
                rintro e w2 ⟨rfl, hb2⟩
                go_wp2
                go_ret
                exact ⟨by rw [HS'.out]; rfl, below_chain (hbl.alloc hsz _) hb2⟩
      · have HR' : Hid (r = 0) := by
          show r = 0
          rw [HS.out, List.drop_eq_nil_of_le (by omega)]
          cases prevN es k <;> rfl
        go_wp2
        go_ret
        exact ⟨by rw [HR'.out]; rfl, hbl⟩
end Go.Proofs.YtjcockcilkiggaaGreat
/- package tree: find returns the place of a name in a book, and whether it is there. It writes nothing that was there. -/
namespace Go.Proofs.YtjcockcilkiggaaGreat
open Go.RowKit

set_option maxRecDepth 100000 in
set_option maxHeartbeats 800000 in
theorem treeFind (A : Option Addr) (c : Nat) (es : List Ent) (n : Bytes) (w : World) (hm : es.length ≤ 1000) (hes : ∀ x ∈ es, Bin.name x.1 = true) (hn : Bin.name n = true) (hA : Row w A (encells es)) (p : Nat) (t : Bool) (hp : place n es = p) (ht : there n es = t) :
    Calls Tryz.prog 86 #[.slice A es.length c, .string (S n)] w fun e w' => e = .returned (.tuple #[.int .i64 (p : Int), .bool t]) ∧ Below w.heap.size w w' := by
  have hK := fun w => Lib.hid (treeKey n w hn)
  have HE := Lib.hid hes
  have HP : Hid (p = 0 + place n (es.drop 0) ∧ t = there n (es.drop 0)) := ⟨by rw [List.drop_zero, hp, Nat.zero_add], by rw [List.drop_zero, ht]⟩
  have HR : ∀ x : Bytes, Hid (Op.bytesLess (Bin.key n) (Bin.key x) = decide (Bin.R n x)) := fun x => by show _ = _; rw [bytesLess_eq]; rfl
  clear hes hn hp ht
  generalize Bin.key n = kn at *
  go_enter Tryz.func86, Tryz.ntmps86
  go_wp2_with fail
  refine (hK _).out.mono ?_
  rintro e w1 ⟨rfl, hb1⟩
  clear hK
  go_wp2
  go_loopw [13] (fun i wr => ∃ k : Nat, k ≤ es.length ∧ i = .int .i64 k ∧ Hid (p = k + place n (es.drop k) ∧ t = there n (es.drop k)) ∧ Below w.heap.size w wr) (fun i _ => es.length - (intOf i).toNat)
  case atStart => exact ⟨0, Nat.zero_le _, rfl, HP, hb1⟩
  case round =>
    obtain ⟨k, hk, rfl, HS, hbl⟩ := hrel
    have hsz := hbl.size
    by_cases hlt : k < es.length
    · obtain ⟨g, off, rfl, h1, h2⟩ := (hA.below hbl).ent k hlt
      have hi0 : (0 : Int) ≤ (k : Int) := by omega
      have hi1 : (k : Int) < (es.length : Int) := by omega
      have hx := fun w => Lib.hid (treeKey es[k].1 w (HE.out _ (List.getElem_mem hlt)))
      have HS' : Hid ((p = k + if es[k].1 = n then 0 else if Bin.R n es[k].1 then 0 else place n (es.drop (k + 1)) + 1) ∧ t = if es[k].1 = n then true else if Bin.R n es[k].1 then false else there n (es.drop (k + 1))) := by
        have := HS.out
        rw [List.drop_eq_getElem_cons hlt, place, there] at this
        exact this
      have HRx := HR es[k].1
      clear HS hA HP hb1 HR
      by_cases he : es[k].1 = n
      · have HS2 : Hid (p = k ∧ t = true) := by
          have := HS'.out
          rw [if_pos he, if_pos he] at this
          exact this
        rw [he] at h1
        clear HS' HRx hx he
        generalize es[k].2 = b at *
        go_wp2
        go_ret2
        exact ⟨by rw [HS2.out.1, HS2.out.2]; rfl, hbl.alloc hsz _⟩
      · have c1 : (es[k].1 == n) = false := beq_eq_false_iff_ne.2 he
        by_cases hR : Bin.R n es[k].1
        · have HS2 : Hid (p = k ∧ t = false) := by
            have := HS'.out
            rw [if_neg he, if_pos hR, if_neg he, if_pos hR] at this
            exact this
          have c2 := HRx.out
          rw [decide_eq_true hR] at c2
          have c34 := less_yes c2
          clear c2
          obtain ⟨c3, c4⟩ := c34
          clear HS' HRx he hR
          generalize Bin.key es[k].1 = ky at *
          generalize es[k].1 = a at *
          generalize es[k].2 = b at *
          go_wp2_with fail
          refine (hx _).out.mono ?_
          rintro e w2 ⟨rfl, hb2⟩
          go_wp2
          go_ret2
          exact ⟨by rw [HS2.out.1, HS2.out.2]; rfl, below_chain (hbl.alloc hsz _) hb2⟩
        · have HS2 : Hid (p = k + 1 + place n (es.drop (k + 1)) ∧ t = there n (es.drop (k + 1))) := by
            have := HS'.out
            rw [if_neg he, if_neg hR, if_neg he, if_neg hR] at this
            exact ⟨by rw [this.1]; omega, this.2⟩
          have c2 := HRx.out
          rw [decide_eq_false hR] at c2
          have c34 := less_no c2
          clear c2
          clear HS' HRx he hR
          generalize Bin.key es[k].1 = ky at *
          generalize es[k].1 = a at *
          generalize es[k].2 = b at *
          rcases c34 with c3 | ⟨c3, c4⟩
          all_goals
            go_wp2_with fail
            refine (hx _).out.mono ?_
            rintro e w2 ⟨rfl, hb2⟩
            go_wp2
            go_roundw
            case rel => exact ⟨k + 1, by omega, by go_num, HS2, below_chain (hbl.alloc hsz _) hb2⟩
            case measure => simp [intOf]; omega
    · have HS2 : Hid (p = es.length ∧ t = false) := by
        have := HS.out
        rw [List.drop_eq_nil_of_le (by omega), place, there] at this
        exact ⟨by omega, this.2⟩
      clear HS HP
      go_wp2
      go_ret2
      exact ⟨by rw [HS2.out.1, HS2.out.2]; rfl, hbl⟩
end Go.Proofs.YtjcockcilkiggaaGreat
/- package tree: Get returns the value of a name in a book, and whether it is there. It writes nothing that was there. -/
namespace Go.Proofs.YtjcockcilkiggaaGreat
open Go.RowKit

/-- The first error of a book and a name. -/
def askErr (es : List Ent) (n : Bytes) : Int := if fault es = 0 then (if Bin.name n = true then 0 else 3) else fault es
theorem askErr_ok (es : List Ent) (n : Bytes) : askErr es n = 0 ↔ Good es ∧ Bin.name n = true := by
  unfold askErr
  rw [← fault_ok]
  by_cases h : fault es = 0
  · rw [if_pos h]
    by_cases h2 : Bin.name n = true <;> simp [h, h2]
  · rw [if_neg h]
    simp [h]

theorem small_of_good {es : List Ent} (h : Good es) : es.length ≤ maxLen ∧ ∀ x ∈ es, x.1.length ≤ maxLen ∧ x.2.length ≤ maxLen := by
  refine ⟨?_, fun x hx => ⟨?_, ?_⟩⟩
  · have := h.len; unfold maxLen; omega
  · have := Bin.name_len (h.name x hx); unfold maxLen; omega
  · have := h.value x hx; unfold maxLen; omega
theorem small_of_name {n : Bytes} (h : Bin.name n = true) : n.length ≤ maxLen := by
  have := Bin.name_len h; unfold maxLen; omega

end Go.Proofs.YtjcockcilkiggaaGreat
/- slices.Equal at []string returns whether two lists of strings are the same; wire.fits returns whether the encodings of a list of strings have at most 600 bytes together. Both write nothing. -/
namespace Go.Proofs.YtjcockcilkiggaaGreat
open Go.RowKit

set_option maxHeartbeats 400000 in
theorem fits (A : Option Addr) (ca : Nat) (ss : List Bytes) (w : World) (hm : ss.length ≤ maxLen) (b : Bool) (hb : Wire.fitsB ss = b) (hA : Row w A (scells ss)) :
    Calls Tryz.prog 102 #[.slice A ss.length ca] w fun e w' => e = .returned (.bool b) ∧ w = w' := by
  unfold maxLen at hm
  have HB := Lib.hid hb
  clear hb
  go_enter Tryz.func102, Tryz.ntmps102
  go_wp2
  go_loop [3, 8] (fun l i => ∃ k n : Nat, k ≤ ss.length ∧ i = .int .i64 k ∧ l = .int .i64 (600 - (n : Int)) ∧ n ≤ 600 ∧ Hid (Wire.encLen (ss.take k) = n)) (fun _ i => ss.length - (intOf i).toNat)
  case atStart => exact ⟨0, 0, Nat.zero_le _, rfl, rfl, by omega, rfl⟩
  case round =>
    obtain ⟨k, n, hk, rfl, rfl, hn, hpre⟩ := hrel
    by_cases hlt : k < ss.length
    · obtain ⟨g, off, rfl, hc⟩ := hA (by rw [scells_length]; omega)
      have h1 := hc k (by rw [scells_length]; exact hlt)
      simp only [scells, List.getElem_map] at h1
      have hi0 : (0 : Int) ≤ (k : Int) := by omega
      have hi1 : (k : Int) < (ss.length : Int) := by omega
      have hst := Wire.encLen_step ss k hlt
      rw [hpre.out] at hst
      have hle := Wire.encLen_take_le ss (k + 1)
      clear hA hc
      by_cases hgt : n + (2 + ss[k].length) ≤ 600
      · have HS := Lib.hid hst
        clear hst hle
        go_wp2
        go_round
        case rel => exact ⟨k + 1, n + (2 + ss[k].length), by omega, by go_num, by go_num, by omega, HS⟩
        case measure => simp [intOf]; omega
      · have HF : Hid (b = false) := by
          show b = false
          rw [← HB.out]
          simp only [Wire.fitsB, decide_eq_false_iff_not]
          omega
        clear hst hle
        go_wp2
        go_ret
        exact ⟨by rw [HF.out]; rfl, rfl⟩
    · have HF : Hid (b = true) := by
        show b = true
        rw [← HB.out]
        have := hpre.out
        rw [List.take_of_length_le (by omega)] at this
        simp only [Wire.fitsB, decide_eq_true_eq]
        omega
      go_wp2
      go_ret
      exact ⟨by rw [HF.out]; rfl, rfl⟩
end Go.Proofs.YtjcockcilkiggaaGreat
/- wire.Put and the reference's Parts. -/
namespace Go.Proofs.YtjcockcilkiggaaGreat
open Go.RowKit

set_option maxHeartbeats 400000 in
theorem put_no (A : Option Addr) (ca : Nat) (ss : List Bytes) (w : World) (hm : ss.length ≤ maxLen) (hb : Wire.okB ss = false) (hA : Row w A (scells ss)) :
    Calls Tryz.prog 96 #[.slice A ss.length ca] w fun e w' => e = .returned (.tuple #[.string (S []), .int .i64 2]) ∧ w = w' := by
  by_cases h60 : ss.length ≤ 60
  · have hf : Wire.fitsB ss = false := by simpa [Wire.okB, h60] using hb
    clear hb
    go_enter Tryz.func96, Tryz.ntmps96
    go_wp2_with (go_at_call 102; refine (fits A ca ss _ hm false hf hA).mono ?_; rintro e w' ⟨rfl, rfl⟩)
    go_ret2
    exact ⟨rfl, rfl⟩
  · clear hb
    unfold maxLen at hm
    go_enter Tryz.func96, Tryz.ntmps96
    go_wp2
    go_ret2
    exact ⟨rfl, rfl⟩

theorem hdr_cells (w : World) (m : Nat) (t : TypeId) (hm : m ≤ 600) : ∀ j u, (bcells [UInt8.ofNat (m / 256), UInt8.ofNat m])[j]? = some u →
    (w.alloc (.cells #[.int .u8 ((m : Int) / 256), .int .u8 ((m : Int) % 256)] t)).cell? ((⟨w.heap.size, 0, none⟩ : Addr).add j) = some u := by
  have e : #[Value.int .u8 ((m : Int) / 256), .int .u8 ((m : Int) % 256)] = (bcells [UInt8.ofNat (m / 256), UInt8.ofNat m]).toArray := by
    have h1 : (UInt8.ofNat (m / 256)).toNat = m / 256 := by simp; omega
    have h2 : (UInt8.ofNat m).toNat = m % 256 := by simp
    simp only [bcells, List.map_cons, List.map_nil, h1, h2]
    simp
  rw [e]
  exact cells_new _ _ _ _ rfl

set_option maxHeartbeats 400000 in
theorem put_yes (A : Option Addr) (ca : Nat) (ss : List Bytes) (w : World) (hb : Wire.okB ss = true) (hA : Row w A (scells ss)) :
    Calls Tryz.prog 96 #[.slice A ss.length ca] w fun e w' => e = .returned (.tuple #[.string (S (Wire.enc ss)), .int .i64 0]) ∧ Below w.heap.size w w' := by
  obtain ⟨h60, hf⟩ : ss.length ≤ 60 ∧ Wire.fitsB ss = true := by simpa [Wire.okB] using hb
  clear hb
  have hm : ss.length ≤ maxLen := by unfold maxLen; omega
  go_enter Tryz.func96, Tryz.ntmps96
  go_wp2_with (go_at_call 102; refine (fits A ca ss _ hm true hf hA).mono ?_; rintro e w' ⟨rfl, rfl⟩)
  go_loopw [4, 17] (fun o i wr => ∃ k : Nat, k ≤ ss.length ∧ i = .int .i64 k ∧ wr.ownsRow w.heap.size 5 1 o (Wire.enc (ss.take k)).length (bcells (Wire.enc (ss.take k))) ∧ Below w.heap.size w wr) (fun _ i _ => ss.length - (intOf i).toNat)
  case atStart => exact ⟨0, Nat.zero_le _, rfl, World.ownsRow_nil _ _ _ _, Below.refl _ _⟩
  case round =>
    obtain ⟨k, hk, rfl, hown, hbl⟩ := hrel
    have hsz := hbl.size
    by_cases hlt : k < ss.length
    · obtain ⟨g, off, rfl, hc⟩ := hA.below hbl (by rw [scells_length]; omega)
      have h1 := hc k (by rw [scells_length]; exact hlt)
      simp only [scells, List.getElem_map] at h1
      have hi0 : (0 : Int) ≤ (k : Int) := by omega
      have hi1 : (k : Int) < (ss.length : Int) := by omega
      clear hA hc
      have hle := Wire.encLen_take_le ss (k + 1)
      have hst := Wire.encLen_step ss k hlt
      have hok : Wire.encLen ss ≤ 600 := by simpa [Wire.fitsB] using hf
      have hl1 : (Wire.enc (ss.take k)).length ≤ 600 := by rw [Wire.enc_length]; omega
      have hl2 : ss[k].length ≤ 600 := by omega
      clear hst hle hok
      go_wp2_with (first
        | (at_builtin; refine app_u8 _ rfl _ _ rfl w.heap.size _ (Wire.enc (ss.take k)) rfl (hown.alloc _) ⟨wr.heap.size, 0, none⟩ 2 [UInt8.ofNat (ss[k].length / 256), UInt8.ofNat ss[k].length] 2 rfl rfl (hdr_cells _ _ _ hl2) (by simp; omega) (by simp; omega) ?_; intro v1 w1 hown1 hgrow1)
        | (at_builtin; refine app_str _ rfl _ _ rfl w.heap.size _ (Wire.enc (ss.take k) ++ [UInt8.ofNat (ss[k].length / 256), UInt8.ofNat ss[k].length]) rfl hown1 ss[k] rfl (by simp; omega) (by have := hgrow1.size; simp at this; omega) ?_; intro v2 w2 hown2 hgrow2))
      have hb1 : Below w.heap.size w w1 := (hbl.alloc hsz _).grown hgrow1 (by simp; omega) (fun g' hg' => (hown.lt g' hg').1)
      have hb2 : Below w.heap.size w w2 := hb1.grown hgrow2 hb1.size (fun g' hg' => (hown1.lt g' hg').1)
      rw [List.append_assoc] at hown2
      have HS : Hid (w2.ownsRow w.heap.size 5 1 v2 (Wire.enc (ss.take (k + 1))).length (bcells (Wire.enc (ss.take (k + 1))))) := by
        show w2.ownsRow w.heap.size 5 1 v2 _ _
        rw [Wire.enc_step ss k hlt]
        exact hown2
      go_roundw
      case rel => exact ⟨k + 1, by omega, by go_num, HS.out, hb2⟩
      case measure => simp [intOf]; omega
    · have e : ss.take k = ss := List.take_of_length_le (by omega)
      rw [e] at hown
      clear e
      have hcv := conv_own (P := Tryz.prog) Tryz.underlying130 Tryz.underlying5 Tryz.underlying9 hown
      go_wp2
      go_ret2
      exact ⟨rfl, hbl⟩
theorem put_two (a b : Bytes) (w : World) (g : Nat) (hg : g = w.heap.size) (h : a.length + b.length ≤ 596) (t : TypeId) :
    Calls Tryz.prog 96 #[.slice (some ⟨g, 0, none⟩) 2 2] (w.alloc (.cells #[.string (S a), .string (S b)] t)) fun e w' => e = .returned (.tuple #[.string (S (Wire.enc [a, b])), .int .i64 0]) ∧ Below (w.alloc (.cells #[.string (S a), .string (S b)] t)).heap.size (w.alloc (.cells #[.string (S a), .string (S b)] t)) w' :=
  put_yes (some ⟨g, 0, none⟩) 2 [a, b] _ (by simp [Wire.okB, Wire.fitsB, Wire.encLen]; omega) (Row.new w g _ _ t hg rfl)
end Go.Proofs.YtjcockcilkiggaaGreat
