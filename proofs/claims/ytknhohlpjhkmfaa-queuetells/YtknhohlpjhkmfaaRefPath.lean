/- The reference: GoodName, Path, GoodPrefix and Ahead return what the plain functions say; they write nothing. -/
import Derived.Test.YtknhohlpjhkmfaaRefMark
import Derived.Test.YtknhohlpjhkmfaaBase
import Derived.Handy
import Derived.Sort.Walk0
namespace Go.Proofs.Ytknhohlpjhkmfaa
open Go.RowKit

theorem nameByte_ref (c : UInt8) : ((decide ((97 : Int) ≤ (c.toNat : Int)) && decide ((c.toNat : Int) ≤ 122)) || (decide ((48 : Int) ≤ (c.toNat : Int)) && decide ((c.toNat : Int) ≤ 57))) = Bin.nameByte c := by
  unfold Bin.nameByte
  congr 2 <;> exact decide_eq_decide.2 (by omega)

set_option maxRecDepth 100000 in
set_option maxHeartbeats 800000 in
theorem goodName (l : Bytes) (w : World) (hl : l.length ≤ maxLen) (b : Bool) (hb : Bin.name l = b) :
    Calls Try.prog 21 #[.string (S l)] w fun e w' => e = .returned (.bool b) ∧ w = w' := by
  unfold maxLen at hl
  have HB := Lib.hid hb
  clear hb
  go_enter Try.func21, Try.ntmps21
  go_wp2
  go_loop [6] (fun i => ∃ k : Nat, k ≤ l.length ∧ i = .int .i64 k ∧ Hid ((l.take k).all Bin.nameByte = true)) (fun i => l.length - (intOf i).toNat)
  case atStart => exact ⟨0, Nat.zero_le _, rfl, rfl⟩
  case round =>
    obtain ⟨k, hk, rfl, hpre⟩ := hrel
    by_cases hlt : k < l.length
    · have hi0 : (0 : Int) ≤ (k : Int) := by omega
      have hi1 : (k : Int) < (l.length : Int) := by omega
      have HV : Hid (((decide ((97 : Int) ≤ (l[k].toNat : Int)) && decide ((l[k].toNat : Int) ≤ 122)) || (decide ((48 : Int) ≤ (l[k].toNat : Int)) && decide ((l[k].toNat : Int) ≤ 57))) = Bin.nameByte l[k]) := nameByte_ref l[k]
      have HS : Hid (Bin.nameByte l[k] = true → (l.take (k + 1)).all Bin.nameByte = true) := by
        show Bin.nameByte l[k] = true → (l.take (k + 1)).all Bin.nameByte = true
        intro hv
        rw [List.take_succ_eq_append_getElem hlt, List.all_append, hpre.out]
        simp [hv]
      have HF : Hid (Bin.nameByte l[k] = false → b = false) := by
        show Bin.nameByte l[k] = false → b = false
        intro hv
        have : l.all Bin.nameByte = false := by
          rw [List.all_eq_false]
          exact ⟨l[k], List.getElem_mem hlt, by simp [hv]⟩
        rw [← HB.out, Bin.name, this, Bool.and_false]
      generalize Bin.nameByte l[k] = v at *
      clear HB
      have h1 : decide ((97 : Int) ≤ (l[k].toNat : Int)) = true ∨ decide ((97 : Int) ≤ (l[k].toNat : Int)) = false := by cases decide ((97 : Int) ≤ (l[k].toNat : Int)) <;> simp
      have h2 : decide ((l[k].toNat : Int) ≤ 122) = true ∨ decide ((l[k].toNat : Int) ≤ 122) = false := by cases decide ((l[k].toNat : Int) ≤ 122) <;> simp
      have h3 : decide ((48 : Int) ≤ (l[k].toNat : Int)) = true ∨ decide ((48 : Int) ≤ (l[k].toNat : Int)) = false := by cases decide ((48 : Int) ≤ (l[k].toNat : Int)) <;> simp
      have h4 : decide ((l[k].toNat : Int) ≤ 57) = true ∨ decide ((l[k].toNat : Int) ≤ 57) = false := by cases decide ((l[k].toNat : Int) ≤ 57) <;> simp
      rcases h1 with h1 | h1 <;> rcases h2 with h2 | h2 <;> rcases h3 with h3 | h3 <;> rcases h4 with h4 | h4 <;>
      · have H := HV.out
        rw [h1, h2, h3, h4] at H
        first
        | (obtain rfl : v = true := H.symm
           have HS' := Lib.hid (HS.out rfl)
           clear H HV HS HF
           go_wp2
           go_round
           case rel => exact ⟨k + 1, by omega, by go_num, HS'⟩
           case measure => simp [intOf]; omega)
        | (obtain rfl : v = false := H.symm
           have HF' := Lib.hid (HF.out rfl)
           clear H HV HS HF
           go_wp2
           go_ret
           exact ⟨by rw [HF'.out]; rfl, rfl⟩)
    · have hall : l.all Bin.nameByte = true := by
        have := hpre.out
        rwa [List.take_of_length_le (by omega)] at this
      have HV : Hid ((decide (0 < l.length) && decide ((l.length : Int) < 13)) = b) := by
        show _ = b
        rw [← HB.out, Bin.name, hall, Bool.and_true]
        congr 1
        exact decide_eq_decide.2 (by omega)
      clear hpre hall HB
      have h2 : decide ((l.length : Int) < 13) = true ∨ decide ((l.length : Int) < 13) = false := by cases decide ((l.length : Int) < 13) <;> simp
      obtain rfl : k = l.length := by omega
      by_cases h1 : 0 < l.length <;> rcases h2 with h2 | h2 <;>
      · have H := HV.out
        simp only [h1, h2] at H
        have HH := Lib.hid H
        clear H HV hlt hk
        go_wp2
        go_ret
        exact ⟨by rw [← HH.out]; rfl, rfl⟩


theorem low_step0 (k n : Nat) (h : n / 2 ^ k % 2 = 0) : (⟨#[48, 49]⟩ : ByteArray).extract 0 1 ++ S (Bin.low k n) = S (Bin.low (k + 1) n) := by
  rw [show (⟨#[48, 49]⟩ : ByteArray) = S [48, 49] from rfl, S_extract, show (List.drop 0 [(48 : UInt8), 49]).take (1 - 0) = [48] from rfl, S_append, Bin.low_front, Bin.digit, h]
  rfl
theorem low_step1 (k n : Nat) (h : n / 2 ^ k % 2 = 1) : (⟨#[48, 49]⟩ : ByteArray).extract 1 2 ++ S (Bin.low k n) = S (Bin.low (k + 1) n) := by
  rw [show (⟨#[48, 49]⟩ : ByteArray) = S [48, 49] from rfl, S_extract, show (List.drop 1 [(48 : UInt8), 49]).take (2 - 1) = [49] from rfl, S_append, Bin.low_front, Bin.digit, h]
  rfl

end Go.Proofs.Ytknhohlpjhkmfaa
