/- The reference's PartsRead returns the list of strings whose encoding a string of at most 600 bytes is, and whether they are at most 60; and else no list. It writes nothing that was there. -/
import Derived.Test.YtbfdbibknhoigaaGet
namespace Go.Proofs.Ytbfdbibknhoigaa
open Go.RowKit
open Wire (head2 head2_eq head2_le firstB)

set_option maxRecDepth 100000 in
set_option maxHeartbeats 400000 in
theorem partsRead_yes (qs : List Bytes) (w : World) (hl : (Wire.enc qs).length ≤ 600) (b : Bool) (hb : decide ((qs.length : Int) ≤ 60) = b) :
    Calls Try.prog 16 #[.string (S (Wire.enc qs))] w (GotList qs (.bool b) w) := by
  have HB := Lib.hid hb
  clear hb
  go_enter Try.func16, Try.ntmps16
  go_wp2
  go_loopw [0, 4] (fun s o wr => ∃ (ps : List Bytes) (rs : List Bytes), s = .string (S (Wire.enc rs)) ∧ wr.ownsRow w.heap.size 9 1 o ps.length (scells ps) ∧ Hid (qs = ps ++ rs) ∧ Below w.heap.size w wr) (fun s _ _ => strLen s)
  case atStart => exact ⟨[], qs, rfl, World.ownsRow_nil _ _ _ _, rfl, Below.refl _ _⟩
  case round =>
    obtain ⟨ps, rs, rfl, hown, hsp, hbl⟩ := hrel
    have hsz := hbl.size
    obtain ⟨A, c, rfl⟩ := own_shape hown
    have hlen : Wire.encLen ps + (Wire.enc rs).length ≤ 600 := by
      have := congrArg (fun x => (Wire.enc x).length) hsp.out
      simp only [Wire.enc_append, List.length_append] at this
      rw [← Wire.enc_length ps]
      omega
    have hps : ps.length * 2 ≤ Wire.encLen ps := Wire.two_le ps
    cases rs with
    | nil =>
      have e : Wire.enc [] = [] := rfl
      rw [e]
      clear e
      clear hlen hps
      obtain rfl : qs = ps := by have := hsp.out; simpa using this
      have hbb := HB.out
      go_wp2
      go_ret2
      exact ⟨A, c, rfl, Row.own hown, hbl⟩
    | cons p rs =>
      have hll : (Wire.enc1 p ++ Wire.enc rs).length ≤ 600 := by
        rw [Wire.enc_cons] at hlen
        omega
      have HF := Lib.hid (fun W : World => partFirst_enc p (Wire.enc rs) W hll)
      have hlr : (Wire.enc1 p ++ Wire.enc rs).length = 2 + p.length + (Wire.enc rs).length := by rw [List.length_append, Wire.enc1_length]
      have hps2 : ps.length ≤ 600 := by omega
      rw [Wire.enc_cons]
      rw [Wire.enc_cons] at hlen
      clear hlen hps
      generalize Wire.enc1 p ++ Wire.enc rs = r at *
      have hr0 : r ≠ [] := by rintro rfl; simp at hlr; omega
      have hr1 : 0 < r.length := by rw [hlr]; omega
      have HL := Lib.hid hlr
      clear hlr hr0
      go_wp2_with (first
        | (go_at_call 18; refine (HF.out _).mono ?_; rintro e w' ⟨rfl, m, rfl⟩)
        | (at_builtin; refine app_strs _ rfl _ _ rfl w.heap.size _ ps rfl ((show (wr.drewN m).ownsRow _ _ _ _ _ _ from hown).alloc _) ⟨wr.heap.size, 0, none⟩ 1 [p] 1 rfl rfl (one_cells (wr.drewN m) p _) (by simp; omega) (by simp; omega) ?_; intro v1 w1 hown1 hgrow1))
      have hb1 : Below w.heap.size w w1 := ((below_drewN hbl m).alloc hsz _).grown hgrow1 (by simp; omega) (fun g' hg' => (hown.lt g' hg').1)
      go_roundw
      case rel => exact ⟨ps ++ [p], rs, rfl, hown1, (by show qs = _; rw [hsp.out]; simp), hb1⟩
      case measure =>
        have := HL.out
        simp only [strLen, S_size]
        omega

set_option maxRecDepth 100000 in
set_option maxHeartbeats 400000 in
theorem partsRead_no (l : Bytes) (w : World) (hl : l.length ≤ 600) (hq : ∀ qs : List Bytes, l ≠ Wire.enc qs) :
    Calls Try.prog 16 #[.string (S l)] w (GotList [] (.bool false) w) := by
  go_enter Try.func16, Try.ntmps16
  go_wp2
  go_loopw [0, 4] (fun s o wr => ∃ (ps : List Bytes) (r : Bytes), s = .string (S r) ∧ wr.ownsRow w.heap.size 9 1 o ps.length (scells ps) ∧ Hid (l = Wire.enc ps ++ r) ∧ Below w.heap.size w wr) (fun s _ _ => strLen s)
  case atStart => exact ⟨[], l, rfl, World.ownsRow_nil _ _ _ _, (by show l = _; simp [Wire.enc]), Below.refl _ _⟩
  case round =>
    obtain ⟨ps, r, rfl, hown, hsp, hbl⟩ := hrel
    have hsz := hbl.size
    obtain ⟨A, c, rfl⟩ := own_shape hown
    have hlen : Wire.encLen ps + r.length ≤ 600 := by
      have := congrArg List.length hsp.out
      rw [List.length_append, Wire.enc_length] at this
      omega
    have hrl : r.length ≤ 600 := by omega
    have hps : ps.length ≤ 600 := by have := Wire.two_le ps; omega
    by_cases hr0 : r = []
    · exfalso
      subst hr0
      exact hq ps (by have := hsp.out; simpa using this)
    · have hr1 : 0 < r.length := List.length_pos_iff.2 hr0
      cases hfb : firstB r with
      | false =>
        have HF := Lib.hid (fun W : World => partFirst_no r W hrl hfb)
        clear hfb hq hlen hr0
        go_wp2_with (first
          | (go_at_call 18; refine (HF.out _).mono ?_; rintro e w' ⟨rfl, m, rfl⟩))
        go_ret2
        exact ⟨none, 0, rfl, Row.nil_ _ _, below_drewN hbl _⟩
      | true =>
        have HF := Lib.hid (fun W : World => partFirst_yes r W hrl hfb)
        have HS := Lib.hid (Wire.split_first r hfb)
        have HL := Lib.hid (Wire.first_length r hfb)
        have HQ := Lib.hid hq
        clear hfb hq hlen hr0
        generalize (r.drop 2).take (head2 r) = p at *
        generalize r.drop (2 + head2 r) = r' at *
        go_wp2_with (first
          | (go_at_call 18; refine (HF.out _).mono ?_; rintro e w' ⟨rfl, m, rfl⟩)
          | (at_builtin; refine app_strs _ rfl _ _ rfl w.heap.size _ ps rfl ((show (wr.drewN m).ownsRow _ _ _ _ _ _ from hown).alloc _) ⟨wr.heap.size, 0, none⟩ 1 [p] 1 rfl rfl (one_cells (wr.drewN m) p _) (by simp; omega) (by simp; omega) ?_; intro v1 w1 hown1 hgrow1))
        have hb1 : Below w.heap.size w w1 := ((below_drewN hbl m).alloc hsz _).grown hgrow1 (by simp; omega) (fun g' hg' => (hown.lt g' hg').1)
        go_roundw
        case rel => exact ⟨ps ++ [p], r', rfl, hown1, (by show l = _; rw [hsp.out, Wire.enc_append]; conv => lhs; rw [HS.out]
                                                          simp [Wire.enc]), hb1⟩
        case measure =>
          have := HL.out
          simp only [strLen, S_size]
          omega
end Go.Proofs.Ytbfdbibknhoigaa
