/- wire.Get returns the list of strings whose encoding a string is, if it has at most 600 bytes and they are at most 60, and else no list; the reference's PartsRead returns that list, and whether it is one. They write nothing that was there. -/
import Derived.Test.YtbfdbibknhoigaaFirst
import Derived.Test.YtbfdbibknhoigaaApps
namespace Go.Proofs.Ytbfdbibknhoigaa
open Go.RowKit
open Wire (head2 head2_eq head2_le firstB)

/-- A list of strings of the call's own, and one value more. -/
def GotList (qs : List Bytes) (v : Value) (w : World) (e : Ending) (w' : World) : Prop :=
  ∃ A c, e = .returned (.tuple #[.slice A qs.length c, v]) ∧ Row w' A (scells qs) ∧ Below w.heap.size w w'

theorem scells_one (s : Bytes) : scells [s] = [.string (S s)] := rfl
theorem one_cells (w : World) (s : Bytes) (t : TypeId) : ∀ j u, (scells [s])[j]? = some u → (w.alloc (.cells #[.string (S s)] t)).cell? ((⟨w.heap.size, 0, none⟩ : Addr).add j) = some u :=
  cells_new w w.heap.size (scells [s]) t rfl

theorem first_enc (p r : Bytes) (w : World) (hl : (Wire.enc1 p ++ r).length ≤ 600) :
    Calls Try.prog 10 #[.string (S (Wire.enc1 p ++ r))] w fun e w' => e = .returned (.tuple #[.string (S p), .string (S r), .int .i64 0]) ∧ ∃ m, w' = w.drewN m := by
  have hp : p.length ≤ 65535 := by rw [List.length_append, Wire.enc1_length] at hl; omega
  obtain ⟨h1, h2, h3⟩ := Wire.first_enc1 p r hp
  have := first_yes (Wire.enc1 p ++ r) w hl h1
  rw [h2, h3] at this
  exact this
theorem partFirst_enc (p r : Bytes) (w : World) (hl : (Wire.enc1 p ++ r).length ≤ 600) :
    Calls Try.prog 18 #[.string (S (Wire.enc1 p ++ r))] w fun e w' => e = .returned (.tuple #[.string (S p), .string (S r), .bool true]) ∧ ∃ m, w' = w.drewN m := by
  have hp : p.length ≤ 65535 := by rw [List.length_append, Wire.enc1_length] at hl; omega
  obtain ⟨h1, h2, h3⟩ := Wire.first_enc1 p r hp
  have := partFirst_yes (Wire.enc1 p ++ r) w hl h1
  rw [h2, h3] at this
  exact this

set_option maxRecDepth 100000 in
set_option maxHeartbeats 400000 in
theorem get_yes (qs : List Bytes) (w : World) (hl : (Wire.enc qs).length ≤ 600) (hq : qs.length ≤ 60) :
    Calls Try.prog 9 #[.string (S (Wire.enc qs))] w (GotList qs (.int .i64 0) w) := by
  go_enter Try.func9, Try.ntmps9
  go_wp2
  go_loopw [0, 4] (fun s o wr => ∃ (ps : List Bytes) (rs : List Bytes), s = .string (S (Wire.enc rs)) ∧ wr.ownsRow w.heap.size 9 1 o ps.length (scells ps) ∧ Hid (qs = ps ++ rs) ∧ Below w.heap.size w wr) (fun s _ _ => strLen s)
  case atStart => exact ⟨[], qs, rfl, World.ownsRow_nil _ _ _ _, rfl, Below.refl _ _⟩
  case round =>
    obtain ⟨ps, rs, rfl, hown, hsp, hbl⟩ := hrel
    have hsz := hbl.size
    obtain ⟨A, c, rfl⟩ := own_shape hown
    cases rs with
    | nil =>
      have e : Wire.enc [] = [] := rfl
      rw [e]
      clear e
      go_wp2
      go_ret2
      obtain rfl : qs = ps := by have := hsp.out; simpa using this
      exact ⟨A, c, rfl, Row.own hown, hbl⟩
    | cons p rs =>
      have hq1 : ps.length + 1 ≤ 60 := by have := congrArg List.length hsp.out; simp at this; omega
      have hne60 : ((ps.length : Int) == 60) = false := by simp; omega
      have hll : (Wire.enc1 p ++ Wire.enc rs).length ≤ 600 := by
        have := congrArg (fun x => (Wire.enc x).length) hsp.out
        simp only [Wire.enc_append, Wire.enc_cons, List.length_append] at this
        simp only [List.length_append]
        omega
      have HF := Lib.hid (fun W : World => first_enc p (Wire.enc rs) W hll)
      have hlr : (Wire.enc1 p ++ Wire.enc rs).length = 2 + p.length + (Wire.enc rs).length := by rw [List.length_append, Wire.enc1_length]
      rw [Wire.enc_cons]
      generalize Wire.enc1 p ++ Wire.enc rs = r at *
      have hr0 : r ≠ [] := by rintro rfl; simp at hlr; omega
      have hr1 : (r == []) = false := by simpa using hr0
      have hr2 : r.isEmpty = false := by simpa using hr0
      have HL := Lib.hid hlr
      clear hlr
      go_wp2_with (first
        | (go_at_call 10; refine (HF.out _).mono ?_; rintro e w' ⟨rfl, m, rfl⟩)
        | (at_builtin; refine app_strs _ rfl _ _ rfl w.heap.size _ ps rfl ((show (wr.drewN m).ownsRow _ _ _ _ _ _ from hown).alloc _) ⟨wr.heap.size, 0, none⟩ 1 [p] 1 rfl rfl (one_cells (wr.drewN m) p _) (by simp; omega) (by simp; omega) ?_; intro v1 w1 hown1 hgrow1))
      have hb1 : Below w.heap.size w w1 := ((below_drewN hbl m).alloc hsz _).grown hgrow1 (by simp; omega) (fun g' hg' => (hown.lt g' hg').1)
      go_roundw
      case rel => exact ⟨ps ++ [p], rs, rfl, hown1, (by show qs = _; rw [hsp.out]; simp), hb1⟩
      case measure =>
        have := HL.out
        simp only [strLen, S_size]
        omega

/-- What is no encoding of at most 60 strings. -/
def NotEnc (l : Bytes) : Prop := ∀ qs : List Bytes, l = Wire.enc qs → 60 < qs.length

set_option maxRecDepth 100000 in
set_option maxHeartbeats 400000 in
theorem get_no (l : Bytes) (w : World) (hl : l.length ≤ 600) (hq : NotEnc l) :
    Calls Try.prog 9 #[.string (S l)] w fun e w' => e = .returned (.tuple #[.slice none 0 0, .int .i64 3]) ∧ Below w.heap.size w w' := by
  go_enter Try.func9, Try.ntmps9
  go_wp2
  go_loopw [0, 4] (fun s o wr => ∃ (ps : List Bytes) (r : Bytes), s = .string (S r) ∧ wr.ownsRow w.heap.size 9 1 o ps.length (scells ps) ∧ ps.length ≤ 60 ∧ Hid (l = Wire.enc ps ++ r) ∧ Below w.heap.size w wr) (fun s _ _ => strLen s)
  case atStart => exact ⟨[], l, rfl, World.ownsRow_nil _ _ _ _, by simp, (by show l = _; simp [Wire.enc]), Below.refl _ _⟩
  case round =>
    obtain ⟨ps, r, rfl, hown, h60, hsp, hbl⟩ := hrel
    have hsz := hbl.size
    obtain ⟨A, c, rfl⟩ := own_shape hown
    have hrl : r.length ≤ 600 := by have := congrArg List.length hsp.out; simp at this; omega
    by_cases hr0 : r = []
    · exfalso
      subst hr0
      have := hq ps (by have := hsp.out; simpa using this)
      omega
    · have hr1 : (r == []) = false := by simpa using hr0
      have hr2 : r.isEmpty = false := by simpa using hr0
      cases hfb : firstB r with
      | false =>
        have HF := Lib.hid (fun W : World => first_no r W hrl hfb)
        clear hfb hq
        go_wp2_with (first
          | (go_at_call 10; refine (HF.out _).mono ?_; rintro e w' ⟨rfl, m, rfl⟩))
        go_ret2
        exact ⟨rfl, below_drewN hbl _⟩
      | true =>
        have HF := Lib.hid (fun W : World => first_yes r W hrl hfb)
        have HS := Lib.hid (Wire.split_first r hfb)
        have HL := Lib.hid (Wire.first_length r hfb)
        have HQ := Lib.hid hq
        clear hfb hq
        generalize (r.drop 2).take (head2 r) = p at *
        generalize r.drop (2 + head2 r) = r' at *
        by_cases he : ps.length = 60
        · have hne60 : ((ps.length : Int) == 60) = true := by simp [he]
          have hne61 : ((ps.length : Int) = 60) := by simp [he]
          clear he
          go_wp2_with (first
            | (go_at_call 10; refine (HF.out _).mono ?_; rintro e w' ⟨rfl, m, rfl⟩))
          go_ret2
          exact ⟨rfl, below_drewN hbl _⟩
        · have hne60 : ((ps.length : Int) == 60) = false := by simp; omega
          go_wp2_with (first
            | (go_at_call 10; refine (HF.out _).mono ?_; rintro e w' ⟨rfl, m, rfl⟩)
            | (at_builtin; refine app_strs _ rfl _ _ rfl w.heap.size _ ps rfl ((show (wr.drewN m).ownsRow _ _ _ _ _ _ from hown).alloc _) ⟨wr.heap.size, 0, none⟩ 1 [p] 1 rfl rfl (one_cells (wr.drewN m) p _) (by simp; omega) (by simp; omega) ?_; intro v1 w1 hown1 hgrow1))
          have hb1 : Below w.heap.size w w1 := ((below_drewN hbl m).alloc hsz _).grown hgrow1 (by simp; omega) (fun g' hg' => (hown.lt g' hg').1)
          go_roundw
          case rel => exact ⟨ps ++ [p], r', rfl, hown1, (by simp; omega), (by show l = _; rw [hsp.out, Wire.enc_append]; conv => lhs; rw [HS.out]
                                                                              simp [Wire.enc]), hb1⟩
          case measure =>
            have := HL.out
            simp only [strLen, S_size]
            omega

set_option maxHeartbeats 400000 in
theorem get_large (l : Bytes) (w : World) (hl : 600 < l.length) :
    Calls Try.prog 9 #[.string (S l)] w fun e w' => e = .returned (.tuple #[.slice none 0 0, .int .i64 2]) ∧ Below w.heap.size w w' := by
  go_enter Try.func9, Try.ntmps9
  go_wp2
  go_ret2
  exact ⟨rfl, Below.refl _ _⟩
end Go.Proofs.Ytbfdbibknhoigaa
