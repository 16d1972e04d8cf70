/- tallyrollkeep.good returns whether all its error numbers are OK; it writes nothing that was there. -/
import Derived.Test.YtknhohlpjhkmfaaKit
namespace Go.Proofs.Ytknhohlpjhkmfaa
open Go.RowKit

def ecells (zs : List Int) : List Value := zs.map fun z => .int .i64 z
theorem ecells_length (zs : List Int) : (ecells zs).length = zs.length := by simp [ecells]
def allOk (zs : List Int) : Bool := zs.all (· == 0)

set_option maxRecDepth 100000 in
set_option maxHeartbeats 400000 in
theorem good_any (A : Option Addr) (c : Nat) (zs : List Int) (w : World) (hz : zs.length ≤ 1000) (b : Bool) (hb : allOk zs = b) (hA : Row w A (ecells zs)) :
    Calls Try.prog 17 #[.slice A zs.length c] w fun e w' => e = .returned (.bool b) ∧ w = w' := by
  have HB := Lib.hid hb
  clear hb
  go_enter Try.func17, Try.ntmps17
  go_wp2
  go_loop [8] (fun i => ∃ k : Nat, k ≤ zs.length ∧ i = .int .i64 k ∧ Hid (allOk (zs.take k) = true)) (fun i => zs.length - (intOf i).toNat)
  case atStart => exact ⟨0, Nat.zero_le _, rfl, rfl⟩
  case round =>
    obtain ⟨k, hk, rfl, hpre⟩ := hrel
    by_cases hlt : k < zs.length
    · obtain ⟨g, off, rfl, hc⟩ := hA (by rw [ecells_length]; omega)
      have h1 := hc k (by rw [ecells_length]; exact hlt)
      simp only [ecells, List.getElem_map] at h1
      have hi0 : (0 : Int) ≤ (k : Int) := by omega
      have hi1 : (k : Int) < (zs.length : Int) := by omega
      clear hA hc
      by_cases hz0 : zs[k] = 0
      · have hne : (zs[k] != 0) = false := by simp [hz0]
        have HS : Hid (allOk (zs.take (k + 1)) = true) := by
          show allOk (zs.take (k + 1)) = true
          have := hpre.out
          rw [List.take_succ_eq_append_getElem hlt, allOk, List.all_append]
          rw [allOk] at this
          simp [this, hz0]
        clear hz0
        go_wp2
        go_round
        case rel => exact ⟨k + 1, by omega, by go_num, HS⟩
        case measure => simp [intOf]; omega
      · have hne : (zs[k] != 0) = true := by simp [hz0]
        have HF : Hid (b = false) := by
          show b = false
          rw [← HB.out, allOk, List.all_eq_false]
          exact ⟨zs[k], List.getElem_mem hlt, by simp [hz0]⟩
        clear hz0
        go_wp2
        go_ret
        exact ⟨by rw [HF.out]; rfl, rfl⟩
    · have HF : Hid (b = true) := by
        show b = true
        rw [← HB.out]
        have := hpre.out
        rwa [List.take_of_length_le (by omega)] at this
      go_wp2
      go_ret
      exact ⟨by rw [HF.out]; rfl, rfl⟩
end Go.Proofs.Ytknhohlpjhkmfaa
/- The check 'good' of two to five errors: whether all are OK. It writes nothing. -/
namespace Go.Proofs.Ytknhohlpjhkmfaa
open Go.RowKit

theorem goods2 (a b : Int) (w : World) (g : Nat) (t : TypeId) (hg : g = w.heap.size) (r : Bool) (hr : (a == 0 && b == 0) = r) :
    Calls Try.prog 17 #[.slice (some ⟨g, 0, none⟩) 2 2] (w.alloc (.cells #[.int .i64 a, .int .i64 b] t)) fun e w' => e = .returned (.bool r) ∧ w.alloc (.cells #[.int .i64 a, .int .i64 b] t) = w' :=
  good_any (some ⟨g, 0, none⟩) 2 [a, b] _ (by simp) r (by rw [← hr]; simp [allOk]) (Row.new w g _ _ t hg rfl)
theorem goods3 (a b c : Int) (w : World) (g : Nat) (t : TypeId) (hg : g = w.heap.size) (r : Bool) (hr : (a == 0 && (b == 0 && c == 0)) = r) :
    Calls Try.prog 17 #[.slice (some ⟨g, 0, none⟩) 3 3] (w.alloc (.cells #[.int .i64 a, .int .i64 b, .int .i64 c] t)) fun e w' => e = .returned (.bool r) ∧ w.alloc (.cells #[.int .i64 a, .int .i64 b, .int .i64 c] t) = w' :=
  good_any (some ⟨g, 0, none⟩) 3 [a, b, c] _ (by simp) r (by rw [← hr]; simp [allOk]) (Row.new w g _ _ t hg rfl)
theorem goods4 (a b c d : Int) (w : World) (g : Nat) (t : TypeId) (hg : g = w.heap.size) (r : Bool) (hr : (a == 0 && (b == 0 && (c == 0 && d == 0))) = r) :
    Calls Try.prog 17 #[.slice (some ⟨g, 0, none⟩) 4 4] (w.alloc (.cells #[.int .i64 a, .int .i64 b, .int .i64 c, .int .i64 d] t)) fun e w' => e = .returned (.bool r) ∧ w.alloc (.cells #[.int .i64 a, .int .i64 b, .int .i64 c, .int .i64 d] t) = w' :=
  good_any (some ⟨g, 0, none⟩) 4 [a, b, c, d] _ (by simp) r (by rw [← hr]; simp [allOk]) (Row.new w g _ _ t hg rfl)
end Go.Proofs.Ytknhohlpjhkmfaa
