/- slices.ContainsFunc at strings with the closure of PathSorts: whether one of them is not in the list that the closure holds; it writes nothing. -/
import Derived.Test.YtllnknhgkfmpnaaSorts
namespace Go.Proofs.Ytllnknhgkfmpnaa
open Go.RowKit

set_option maxHeartbeats 400000 in
theorem outside_one (s : Bytes) (g0 : Nat) (D : Option Addr) (d : Nat) (T : List Bytes) (w : World) (_hs : s.length ≤ maxLen) (hcell : w.cell? ⟨g0, 0, none⟩ = some (.slice D T.length d)) (hT : T.length ≤ maxLen) (hR : Row w D (scells T)) (v : Bool) (hv : (!decide (s ∈ T)) = v) :
    Calls Try.prog 20 #[.string (S s), .pointer (some ⟨g0, 0, none⟩)] w fun e w' => e = .returned (.bool v) ∧ w = w' := by
  have hC := Lib.hid (containsStrs D d T s w hT _ rfl hR)
  clear hR
  subst hv
  generalize decide (s ∈ T) = b at *
  go_enter Try.func20, Try.ntmps20
  go_wp2_with fail
  refine hC.out.mono ?_
  rintro e w1 ⟨rfl, rfl⟩
  go_wp2
  go_ret
  exact ⟨rfl, rfl⟩

set_option maxHeartbeats 400000 in
theorem outside_index (A : Option Addr) (c : Nat) (ss : List Bytes) (g0 : Nat) (D : Option Addr) (d : Nat) (T : List Bytes) (w : World) (hm : ss.length ≤ maxLen) (hs : ∀ s ∈ ss, s.length ≤ maxLen) (hcell : w.cell? ⟨g0, 0, none⟩ = some (.slice D T.length d)) (hT : T.length ≤ maxLen) (hR : Row w D (scells T)) (b : Bool) (hb : ss.any (fun s => !decide (s ∈ T)) = b) (hA : Row w A (scells ss)) :
    Calls Try.prog 30 #[.slice A ss.length c, .func (.func 20) #[] #[.pointer (some ⟨g0, 0, none⟩)]] w fun e w' => ∃ i : Int, e = .returned (.int .i64 i) ∧ decide (0 ≤ i) = b ∧ w = w' := by
  unfold maxLen at hm
  have HB := Lib.hid hb
  clear hb
  go_enter Try.func30, Try.ntmps30
  go_wp2
  go_loop [8] (fun i => ∃ k : Nat, k ≤ ss.length ∧ i = .int .i64 k ∧ Hid ((ss.take k).any (fun s => !decide (s ∈ T)) = false)) (fun i => ss.length - (intOf i).toNat)
  case atStart => exact ⟨0, Nat.zero_le _, rfl, rfl⟩
  case round =>
    obtain ⟨k, hk, rfl, hpre⟩ := hrel
    by_cases hlt : k < ss.length
    · obtain ⟨g, off, rfl, hc⟩ := hA (by rw [scells_length]; omega)
      have h1 := hc k (by rw [scells_length]; exact hlt)
      simp only [scells, List.getElem_map] at h1
      have hi0 : (0 : Int) ≤ (k : Int) := by omega
      have hi1 : (k : Int) < (ss.length : Int) := by omega
      have HS : Hid ((ss.take (k + 1)).any (fun s => !decide (s ∈ T)) = (fun s => !decide (s ∈ T)) ss[k]) := by
        show (ss.take (k + 1)).any (fun s => !decide (s ∈ T)) = _
        rw [List.take_succ_eq_append_getElem hlt, List.any_append, hpre.out]
        simp
      have HT : Hid ((fun s => !decide (s ∈ T)) ss[k] = true → b = true) := by
        show (fun s => !decide (s ∈ T)) ss[k] = true → b = true
        intro h
        rw [← HB.out, List.any_eq_true]
        exact ⟨ss[k], List.getElem_mem hlt, h⟩
      have hF := fun (v : Bool) (hv : (!decide (ss[k] ∈ T)) = v) => Lib.hid (outside_one ss[k] g0 D d T w (hs _ (List.getElem_mem hlt)) hcell hT hR v hv)
      clear hA hc
      cases hv : (fun s => !decide (s ∈ T)) ss[k] with
      | false =>
        have hG := hF false hv
        rw [hv] at HS
        clear hF HT hv hs
        generalize ss[k] = s at *
        go_wp2_with fail
        refine hG.out.mono ?_
        rintro e w1 ⟨rfl, rfl⟩
        go_wp2
        go_round
        case rel => exact ⟨k + 1, by omega, by go_num, HS⟩
        case measure => simp [intOf]; omega
      | true =>
        have hG := hF true hv
        have HT' := Lib.hid (HT.out hv)
        clear hF HS HT hv hs
        generalize ss[k] = s at *
        go_wp2_with fail
        refine hG.out.mono ?_
        rintro e w1 ⟨rfl, rfl⟩
        go_wp2
        go_ret
        exact ⟨(k : Int), rfl, by rw [HT'.out]; simp, rfl⟩
    · have HF : Hid (b = false) := by
        show b = false
        rw [← HB.out]
        have := hpre.out
        rwa [List.take_of_length_le (by omega)] at this
      go_wp2
      go_ret
      exact ⟨-1, rfl, by rw [HF.out]; decide, rfl⟩

set_option maxHeartbeats 400000 in
theorem outside (A : Option Addr) (c : Nat) (ss : List Bytes) (g0 : Nat) (D : Option Addr) (d : Nat) (T : List Bytes) (w : World) (hm : ss.length ≤ maxLen) (hs : ∀ s ∈ ss, s.length ≤ maxLen) (hcell : w.cell? ⟨g0, 0, none⟩ = some (.slice D T.length d)) (hT : T.length ≤ maxLen) (hR : Row w D (scells T)) (b : Bool) (hb : ss.any (fun s => !decide (s ∈ T)) = b) (hA : Row w A (scells ss)) :
    Calls Try.prog 14 #[.slice A ss.length c, .func (.func 20) #[] #[.pointer (some ⟨g0, 0, none⟩)]] w fun e w' => e = .returned (.bool b) ∧ w = w' := by
  have h1 := Lib.hid (outside_index A c ss g0 D d T w hm hs hcell hT hR b hb hA)
  clear hb hA hs hcell hT hR
  go_enter Try.func14, Try.ntmps14
  go_wp2_with fail
  refine h1.out.mono ?_
  rintro e w1 ⟨i, rfl, hi, rfl⟩
  go_wp2
  go_ret
  exact ⟨by rw [← hi]; rfl, rfl⟩
end Go.Proofs.Ytllnknhgkfmpnaa
