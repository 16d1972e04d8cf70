/- package proof: hasPath returns whether a name has a path, inverted the other byte of a path, onPath the entries of a book that have a path, siblings the hashes beside a path. They write nothing that was there. -/
import Derived.Test.YtmmmolbejfdamaaTreeAt
import Derived.Test.YtmmmolbejfdamaaLeaves
import Derived.Test.YtmmmolbejfdamaaMarks
import Derived.Deep.RegionHeld3
import Derived.Test.YtmmmolbejfdamaaOwnS
namespace Go.Proofs.Ytmmmolbejfdamaa
set_option maxRecDepth 100000
open Go.RowKit

set_option maxHeartbeats 400000 in
theorem hasPath (n q : Bytes) (w : World) (h : Bin.name n = true) (b : Bool) (hb : (Bin.of n == q) = b) :
    Calls Try.prog 69 #[.string (S n), .string (S q)] w fun e w' => e = .returned (.bool b) ∧ Below w.heap.size w w' := by
  have hP := fun w => Lib.hid (pathOf_yes n w h)
  clear h
  generalize Bin.of n = p at *
  go_enter Try.func69, Try.ntmps69
  go_wp2_with fail
  refine (hP _).out.mono ?_
  rintro e w1 ⟨rfl, hb1⟩
  go_wp2
  go_ret
  exact ⟨by rw [← hb]; rfl, hb1⟩

set_option maxHeartbeats 400000 in
theorem inverted (c : UInt8) (w : World) (s : Bytes) (hs : s = [if c = 48 then 49 else 48]) :
    Calls Try.prog 70 #[.int .u8 (c.toNat : Int)] w fun e w' => e = .returned (.string (S s)) ∧ w = w' := by
  by_cases h : c = 48
  · subst h
    rw [if_pos rfl] at hs
    subst hs
    go_enter Try.func70, Try.ntmps70
    go_wp2
    go_ret
    exact ⟨rfl, rfl⟩
  · rw [if_neg h] at hs
    subst hs
    have c1 : ((c.toNat : Int) == 48) = false := by rw [beq_eq_false_iff_ne]; intro e; exact h (UInt8.toNat_inj.1 (show c.toNat = 48 by omega))
    clear h
    go_enter Try.func70, Try.ntmps70
    go_wp2
    go_ret
    exact ⟨rfl, rfl⟩

theorem at16_next (es : List Ent) (p : Bytes) (k : Nat) (h : k < es.length) : at16 (es.take (k + 1)) p = at16 (es.take k) p ++ if (Bin.of es[k].1 == p) = true then [es[k]] else [] := by
  rw [List.take_succ_eq_append_getElem h, at16_snoc]
  by_cases hb : Bin.of es[k].1 = p
  · rw [if_pos hb, if_pos (beq_iff_eq.2 hb)]
  · rw [if_neg hb, if_neg (fun e => hb (beq_iff_eq.1 e))]

/-- A row of entries of the call's own. -/
def OwnEnts (L : List Ent) (base : Nat) (w : World) (e : Ending) (w' : World) : Prop := ∃ v, e = .returned v ∧ ownsS w' base v L ∧ Below w.heap.size w w'
def OwnMarks (L : List Nat) (base : Nat) (w : World) (e : Ending) (w' : World) : Prop := ∃ v, e = .returned v ∧ w'.ownsRow base 46 1 v L.length (mcells L) ∧ Below w.heap.size w w'

set_option maxHeartbeats 1000000 in
theorem onPath (A : Option Addr) (c : Nat) (es : List Ent) (q : Bytes) (w : World) (hm : es.length ≤ 1000) (hes : ∀ x ∈ es, Bin.name x.1 = true) (hA : Row w A (encells es)) :
    Calls Try.prog 48 #[.slice A es.length c, .string (S q)] w (OwnEnts (at16 es q) w.heap.size w) := by
  have HE := Lib.hid hes
  clear hes
  go_enter Try.func48, Try.ntmps48
  go_wp2
  go_loopw [5, 10] (fun v5 i wr => ∃ (k : Nat) (L : List Ent), k ≤ es.length ∧ i = .int .i64 k ∧ Hid (L = at16 (es.take k) q) ∧ L.length ≤ k ∧ ownsS wr w.heap.size v5 L ∧ Below w.heap.size w wr) (fun _ i _ => es.length - (intOf i).toNat)
  case atStart => exact ⟨0, [], Nat.zero_le _, rfl, rfl, by simp, ownsS.nil _ _, Below.refl _ _⟩
  case round =>
    obtain ⟨k, L, hk, rfl, HL, hLl, h6, hbl⟩ := hrel
    have hsz := hbl.size
    by_cases hlt : k < es.length
    · obtain ⟨g, off, rfl, h1, h2⟩ := (hA.below hbl).ent k hlt
      have hi0 : (0 : Int) ≤ (k : Int) := by omega
      have hi1 : (k : Int) < (es.length : Int) := by omega
      have hh := fun w => Lib.hid (hasPath es[k].1 q w (HE.out _ (List.getElem_mem hlt)) _ rfl)
      have HL' : Hid (at16 (es.take (k + 1)) q = L ++ if (Bin.of es[k].1 == q) = true then [es[k]] else []) := by
        show at16 _ q = _
        rw [at16_next _ _ _ hlt, ← HL.out]
      cases hbg : (Bin.of es[k].1 == q) with
      | false =>
        rw [hbg] at hh HL'
        rw [if_neg (by simp), List.append_nil] at HL'
        clear hbg HL hA
        generalize es[k].1 = a at *
        generalize es[k].2 = b at *
        go_wp2_with fail
        refine (hh _).out.mono ?_
        rintro e w1 ⟨rfl, hb1⟩
        have hb0 : Below wr.heap.size wr w1 := below_chain ((Below.refl _ _).alloc (Nat.le_refl _) _) hb1
        go_wp2
        go_roundw
        case rel => exact ⟨k + 1, L, by omega, by go_num, HL'.out.symm, by omega, h6.below hb0, below_chain hbl hb0⟩
        case measure => simp [intOf]; omega
      | true =>
        rw [hbg] at hh HL'
        rw [if_pos rfl] at HL'
        have HX : Hid ([es[k]] = [(es[k].1, es[k].2)]) := rfl
        rw [HX.out] at HL'
        clear hbg HL hA HX
        generalize es[k].1 = a at *
        generalize es[k].2 = b at *
        go_wp2_with fail
        refine (hh _).out.mono ?_
        rintro e w1 ⟨rfl, hb1⟩
        have k1 : w1.cell? ⟨wr.heap.size, 0, none⟩ = some (.string (S a)) := kept (by rw [World.cell?_alloc_new]; rfl) hb1
        have k2 : w1.cell? ⟨wr.heap.size, 1, none⟩ = some (.string (S b)) := kept (by rw [World.cell?_alloc_new]; rfl) hb1
        have hb0 : Below wr.heap.size wr w1 := below_chain ((Below.refl _ _).alloc (Nat.le_refl _) _) hb1
        have g6 := h6.below hb0
        have hb2 := below_chain hbl hb0
        have hsz2 := hb2.size
        clear hh h1 h2 h6 hb1 hbl hb0 hsz
        obtain ⟨v2, w2, hrun, hown2, hgrow2, -⟩ := run_appS _ 22 w.heap.size _ L (g6.alloc (.cells #[.string (S a), .string (S b)] 34)) (some ⟨w1.heap.size, 0, none⟩) 1 [(a, b)] (Row.new w1 _ _ (encells [(a, b)]) _ rfl rfl) (by simp; omega) (by simp; omega)
        go_wp2_with (at_builtin; refine app_run _ rfl _ _ _ _ rfl _ _ _ _ rfl rfl hrun ?_)
        have hb4 : Below w.heap.size w w2 := (hb2.alloc hsz2 _).grown hgrow2 (by simp; omega) (fun k hk' => (g6.lt k hk').1)
        go_roundw
        case rel => exact ⟨k + 1, L ++ [(a, b)], by omega, by go_num, HL'.out.symm, by simp; omega, hown2, hb4⟩
        case measure => simp [intOf]; omega
    · have HL' : Hid (at16 es q = L) := by
        show at16 es q = L
        rw [HL.out, List.take_of_length_le (by omega)]
      go_wp2
      go_ret
      rw [HL'.out]
      exact ⟨_, rfl, h6, hbl⟩

theorem sidesOf_front (es : List Ent) (n : Bytes) (i : Nat) : (List.range (i + 1)).map (fun i => prefMark es (flipAt n (15 - i))) = (List.range i).map (fun i => prefMark es (flipAt n (15 - i))) ++ [prefMark es (flipAt n (15 - i))] := by
  rw [List.range_succ, List.map_append]
  rfl
theorem flip_good (n : Bytes) (k : Nat) (h : k < 16) : goodPre (flipAt n k) = true := by
  unfold goodPre flipAt
  have hb : (Bin.of n).all Bin.bitByte = true := Bin.low_bits _ _
  rw [Bool.and_eq_true]
  refine ⟨?_, decide_eq_true (by simp; omega)⟩
  rw [List.all_eq_true]
  intro x hx
  rcases List.mem_append.1 hx with hx | hx
  · exact List.all_eq_true.1 hb x (List.mem_of_mem_take hx)
  · rw [List.mem_singleton] at hx
    subst hx
    split <;> rfl
theorem flip_is (n : Bytes) (k : Nat) (h : k < (Bin.of n).length) : (Bin.of n).take k ++ [if (Bin.of n)[k] = 48 then 49 else 48] = flipAt n k := by
  have hl := Bin.of_length n
  obtain ⟨b, e, hb, _⟩ := take_bit n k (by omega)
  rw [List.getElem?_eq_getElem h] at e
  have e : (Bin.of n)[k] = b := by injection e
  unfold flipAt
  rw [List.getElem?_eq_getElem h, e]
  rcases hb with rfl | rfl <;> simp

set_option maxHeartbeats 1000000 in
theorem siblings (A : Option Addr) (c : Nat) (es : List Ent) (n : Bytes) (w : World) (hg : Good es) (hA : Row w A (encells es)) :
    Calls Try.prog 49 #[.slice A es.length c, .string (S (Bin.of n))] w (OwnMarks (sidesOf es n) w.heap.size w) := by
  have hT := fun k (hk : k < 16) (w : World) hA => Lib.hid (treeAt_yes A c es (flipAt n k) w hg (flip_good n k hk) hA _ rfl)
  have hol := Bin.of_length n
  have HI : ∀ k (h : k < (Bin.of n).length), Hid ((Bin.of n).take k ++ [if (Bin.of n)[k] = 48 then 49 else 48] = flipAt n k) := fun k h => flip_is n k h
  have HF : ∀ i, Hid ((List.range (i + 1)).map (fun i => prefMark es (flipAt n (15 - i))) = (List.range i).map (fun i => prefMark es (flipAt n (15 - i))) ++ [prefMark es (flipAt n (15 - i))]) := fun i => sidesOf_front es n i
  have HT : Hid (sidesOf es n = (List.range 16).map fun i => prefMark es (flipAt n (15 - i))) := rfl
  generalize sidesOf es n = T at *
  generalize Bin.of n = pn at *
  clear hg
  go_enter Try.func49, Try.ntmps49
  go_wp2
  go_loopw [5, 6] (fun v5 i wr => ∃ (j : Nat) (L : List Nat), j ≤ 16 ∧ i = .int .i64 (15 - (j : Int)) ∧ Hid (L = (List.range j).map (fun i => prefMark es (flipAt n (15 - i)))) ∧ L.length = j ∧ wr.ownsRow w.heap.size 46 1 v5 L.length (mcells L) ∧ Below w.heap.size w wr) (fun _ i _ => (intOf i + 1).toNat)
  case atStart => exact ⟨0, [], Nat.zero_le _, rfl, rfl, rfl, World.ownsRow_nil _ _ _ _, Below.refl _ _⟩
  case round =>
    obtain ⟨j, L, hj, rfl, HL, hLl, h6, hbl⟩ := hrel
    have hsz := hbl.size
    by_cases hlt : j < 16
    · obtain ⟨k, hk⟩ : ∃ k, k = 15 - j := ⟨_, rfl⟩
      have hk16 : k < 16 := by omega
      have e1 : (15 - (j : Int)) = (k : Int) := by omega
      have hkl : k < pn.length := by omega
      have hi0 : (0 : Int) ≤ (k : Int) := by omega
      have hi1 : (k : Int) < (pn.length : Int) := by omega
      have hi2 : (k : Int) ≤ (pn.length : Int) := by omega
      have hTk := fun w hA => hT k hk16 w hA
      have hV := fun w => Lib.hid (inverted pn[k] w _ rfl)
      have HIk := HI k hkl
      have HL' : Hid ((List.range (j + 1)).map (fun i => prefMark es (flipAt n (15 - i))) = L ++ [prefMark es (flipAt n k)]) := by
        show _ = _
        rw [(HF j).out, ← HL.out, hk]
      have hivl : ([if pn[k] = 48 then 49 else 48] : Bytes).length = 1 := rfl
      have hsum : ¬ 9223372036854775807 < min k (List.length pn) + 1 := by omega
      generalize ([if pn[k] = 48 then 49 else 48] : Bytes) = iv at *
      have hAr := hA.below hbl
      generalize prefMark es (flipAt n k) = z at *
      rw [← HIk.out] at hTk
      clear hT HI HF HT HIk HL hA
      rw [e1]
      have E1 := Lib.hid e1
      have hi3 : (k : Int) < 16 := by omega
      have hi4 : (k : Int) ≤ 16 := by omega
      have Hol := Lib.hid hol
      clear e1 hk hol
      have hT' : ∀ W : World, (Row W A (encells es) ∧ Below wr.heap.size wr W) → Hid (Calls Try.prog 43 #[.slice A es.length c, .string (S (List.take k pn ++ iv))] W fun e w' => e = .returned (.tuple #[.int .u64 (z : Int), .int .i64 0]) ∧ Row w' A (encells es) ∧ Below wr.heap.size wr w') := fun W h => by
        show Calls _ _ _ _ _
        exact (hTk W h.1).out.mono fun e w' k => ⟨k.1, h.1.below k.2, below_chain h.2 k.2⟩
      have hV' : ∀ W : World, (Row W A (encells es) ∧ Below wr.heap.size wr W) → Hid (Calls Try.prog 70 #[.int .u8 (pn[k].toNat : Int)] W fun e w' => e = .returned (.string (S iv)) ∧ Row w' A (encells es) ∧ Below wr.heap.size wr w') := fun W h => by
        show Calls _ _ _ _ _
        exact (hV W).out.mono fun e w' k => ⟨k.1, by rw [← k.2]; exact h.1, by rw [← k.2]; exact h.2⟩
      clear hTk hV
      go_wp2
      go_region_held3 (fun w' => Row w' A (encells es) ∧ Below wr.heap.size wr w') (first | exact ⟨hAr.below (bdrew (Below.refl _ _)), bdrew (Below.refl _ _)⟩ | exact ⟨k1, k2⟩ | exact ⟨by assumption, by assumption⟩ | go_keep)
        (first
          | (go_at_call 70; refine (hV' _ ?_).out.mono ?_; (first | exact ⟨hAr.below (bdrew (Below.refl _ _)), bdrew (Below.refl _ _)⟩ | exact ⟨by assumption, by assumption⟩ | go_keep); rintro e w' ⟨rfl, k1, k2⟩)
          | (go_at_call 43; refine (hT' _ ?_).out.mono ?_; (first | exact ⟨hAr.below (bdrew (Below.refl _ _)), bdrew (Below.refl _ _)⟩ | exact ⟨by assumption, by assumption⟩ | go_keep); rintro e w' ⟨rfl, k1, k2⟩))
      have hb2 := below_chain hbl k2
      have g6 := own_below h6 k2
      have hsz2 := hb2.size
      clear h6 k1 k2 hT' hV'
      go_wp2_with (at_builtin; refine app_marks _ rfl _ _ rfl w.heap.size _ L rfl (g6.alloc _) ⟨w'.heap.size, 0, none⟩ 1 [z] 1 rfl rfl (mark_one w' z _) (by simp; omega) (by simp; omega) ?_; intro v2 w2 hown2 hgrow2)
      have hb4 : Below w.heap.size w w2 := (hb2.alloc hsz2 _).grown hgrow2 (by simp; omega) (fun k hk' => (g6.lt k hk').1)
      go_roundw
      case rel => exact ⟨j + 1, L ++ [z], by omega, by have := E1.out; go_num, HL'.out.symm, by simp; omega, hown2, hb4⟩
      case measure => simp [intOf]
    · obtain rfl : j = 16 := by omega
      have HT' : Hid (T = L) := by
        show T = L
        rw [HT.out, HL.out]
      go_wp2
      go_ret
      rw [HT'.out]
      exact ⟨_, rfl, h6, hbl⟩
end Go.Proofs.Ytmmmolbejfdamaa
