/- slices.ContainsFunc at strings with the closure of PathTells: whether one of them is no name; it writes nothing. -/
import Derived.Test.YtllnknhgkfmpnaaRefPath
namespace Go.Proofs.Ytllnknhgkfmpnaa
open Go.RowKit

set_option maxHeartbeats 400000 in
theorem unnamed_one (s : Bytes) (w : World) (hs : s.length ≤ maxLen) (v : Bool) (hv : (!Bin.name s) = v) :
    Calls Try.prog 15 #[.string (S s)] w fun e w' => e = .returned (.bool v) ∧ w = w' := by
  have hC := Lib.hid (goodName s w hs _ rfl)
  subst hv
  clear hs
  generalize Bin.name s = b at *
  go_enter Try.func15, Try.ntmps15
  go_wp2_with fail
  refine hC.out.mono ?_
  rintro e w1 ⟨rfl, rfl⟩
  go_wp2
  go_ret
  exact ⟨rfl, rfl⟩

set_option maxHeartbeats 400000 in
theorem unnamed_index (A : Option Addr) (c : Nat) (ss : List Bytes) (w : World) (hm : ss.length ≤ maxLen) (hs : ∀ s ∈ ss, s.length ≤ maxLen) (b : Bool) (hb : ss.any (fun s => !Bin.name s) = b) (hA : Row w A (scells ss)) :
    Calls Try.prog 30 #[.slice A ss.length c, .func (.func 15) #[] #[]] w fun e w' => ∃ i : Int, e = .returned (.int .i64 i) ∧ decide (0 ≤ i) = b ∧ w = w' := by
  unfold maxLen at hm
  have HB := Lib.hid hb
  clear hb
  go_enter Try.func30, Try.ntmps30
  go_wp2
  go_loop [8] (fun i => ∃ k : Nat, k ≤ ss.length ∧ i = .int .i64 k ∧ Hid ((ss.take k).any (fun s => !Bin.name s) = false)) (fun i => ss.length - (intOf i).toNat)
  case atStart => exact ⟨0, Nat.zero_le _, rfl, rfl⟩
  case round =>
    obtain ⟨k, hk, rfl, hpre⟩ := hrel
    by_cases hlt : k < ss.length
    · obtain ⟨g, off, rfl, hc⟩ := hA (by rw [scells_length]; omega)
      have h1 := hc k (by rw [scells_length]; exact hlt)
      simp only [scells, List.getElem_map] at h1
      have hi0 : (0 : Int) ≤ (k : Int) := by omega
      have hi1 : (k : Int) < (ss.length : Int) := by omega
      have HS : Hid ((ss.take (k + 1)).any (fun s => !Bin.name s) = (fun s => !Bin.name s) ss[k]) := by
        show (ss.take (k + 1)).any (fun s => !Bin.name s) = _
        rw [List.take_succ_eq_append_getElem hlt, List.any_append, hpre.out]
        simp
      have HT : Hid ((fun s => !Bin.name s) ss[k] = true → b = true) := by
        show (fun s => !Bin.name s) ss[k] = true → b = true
        intro h
        rw [← HB.out, List.any_eq_true]
        exact ⟨ss[k], List.getElem_mem hlt, h⟩
      have hF := fun (v : Bool) (hv : (!Bin.name ss[k]) = v) => Lib.hid (unnamed_one ss[k]  w (hs _ (List.getElem_mem hlt)) v hv)
      clear hA hc
      cases hv : (fun s => !Bin.name s) ss[k] with
      | false =>
        have hG := hF false hv
        rw [hv] at HS
        clear hF HT hv hs
        generalize ss[k] = s at *
        go_wp2_with fail
        refine hG.out.mono ?_
        rintro e w1 ⟨rfl, rfl⟩
        go_wp2
        go_round
        case rel => exact ⟨k + 1, by omega, by go_num, HS⟩
        case measure => simp [intOf]; omega
      | true =>
        have hG := hF true hv
        have HT' := Lib.hid (HT.out hv)
        clear hF HS HT hv hs
        generalize ss[k] = s at *
        go_wp2_with fail
        refine hG.out.mono ?_
        rintro e w1 ⟨rfl, rfl⟩
        go_wp2
        go_ret
        exact ⟨(k : Int), rfl, by rw [HT'.out]; simp, rfl⟩
    · have HF : Hid (b = false) := by
        show b = false
        rw [← HB.out]
        have := hpre.out
        rwa [List.take_of_length_le (by omega)] at this
      go_wp2
      go_ret
      exact ⟨-1, rfl, by rw [HF.out]; decide, rfl⟩

set_option maxHeartbeats 400000 in
theorem unnamed (A : Option Addr) (c : Nat) (ss : List Bytes) (w : World) (hm : ss.length ≤ maxLen) (hs : ∀ s ∈ ss, s.length ≤ maxLen) (b : Bool) (hb : ss.any (fun s => !Bin.name s) = b) (hA : Row w A (scells ss)) :
    Calls Try.prog 14 #[.slice A ss.length c, .func (.func 15) #[] #[]] w fun e w' => e = .returned (.bool b) ∧ w = w' := by
  have h1 := Lib.hid (unnamed_index A c ss  w hm hs b hb hA)
  clear hb hA hs
  go_enter Try.func14, Try.ntmps14
  go_wp2_with fail
  refine h1.out.mono ?_
  rintro e w1 ⟨i, rfl, hi, rfl⟩
  go_wp2
  go_ret
  exact ⟨by rw [← hi]; rfl, rfl⟩
end Go.Proofs.Ytllnknhgkfmpnaa
