/- The reference's Parts returns the encoding of a list of strings, and whether it is one of at most 600 bytes and 60 strings. It writes nothing that was there. -/
import Derived.Test.YtgmanaciadfkdaaKit
import Derived.Test.YtgmanaciadfkdaaBase
namespace Go.Proofs.Ytgmanaciadfkdaa
open Go.RowKit

theorem hdr_conv (w : World) (m : Nat) :
    (convert 47 9 (.slice (some ⟨w.heap.size, 0, none⟩) 2 2)).run Try.prog (w.alloc (.cells #[.int .u8 ((m : Int) / 256), .int .u8 ((m : Int) % 256)] 5)) =
      .ok (.string (S [UInt8.ofNat (m / 256), UInt8.ofNat m])) (w.alloc (.cells #[.int .u8 ((m : Int) / 256), .int .u8 ((m : Int) % 256)] 5)) := by
  rw [run_convert_bytes_arg (P := Try.prog) _ 47 5 Try.underlying47 Try.underlying5 w.heap.size 0 2 2 [((m / 256 : Nat) : Int), ((m % 256 : Nat) : Int)] rfl (fun i hi => by
    have hi' : i = 0 ∨ i = 1 := by omega
    rcases hi' with rfl | rfl <;> simp) 9 Try.underlying9]
  congr 2
  have h1 : ((m : Int) / 256).toNat = m / 256 := by omega
  have h2 : ((m : Int) % 256).toNat = m % 256 := by omega
  have h3 : UInt8.ofNat (m % 256) = UInt8.ofNat m := by apply UInt8.toNat_inj.1; simp
  simp [strOfNums, S, h1, h2, h3]

set_option maxRecDepth 100000 in
set_option maxHeartbeats 400000 in
theorem parts_yes (A : Option Addr) (ca : Nat) (ss : List Bytes) (w : World) (hm : ss.length ≤ maxLen) (hf : Wire.fitsB ss = true) (b : Bool) (hb : decide ((ss.length : Int) ≤ 60) = b) (hA : Row w A (scells ss)) :
    Calls Try.prog 21 #[.slice A ss.length ca] w fun e w' => e = .returned (.tuple #[.string (S (Wire.enc ss)), .bool b]) ∧ Below w.heap.size w w' := by
  unfold maxLen at hm
  have hok : Wire.encLen ss ≤ 600 := by simpa [Wire.fitsB] using hf
  clear hf
  go_enter Try.func21, Try.ntmps21
  go_wp2
  go_loopw [4, 9] (fun o i wr => ∃ k : Nat, k ≤ ss.length ∧ i = .int .i64 k ∧ o = .string (S (Wire.enc (ss.take k))) ∧ Below w.heap.size w wr) (fun _ i _ => ss.length - (intOf i).toNat)
  case atStart => exact ⟨0, Nat.zero_le _, rfl, rfl, Below.refl _ _⟩
  case round =>
    obtain ⟨k, hk, rfl, rfl, hbl⟩ := hrel
    have hsz := hbl.size
    by_cases hlt : k < ss.length
    · obtain ⟨g, off, rfl, hc⟩ := hA.below hbl (by rw [scells_length]; omega)
      have h1 := hc k (by rw [scells_length]; exact hlt)
      simp only [scells, List.getElem_map] at h1
      have hi0 : (0 : Int) ≤ (k : Int) := by omega
      have hi1 : (k : Int) < (ss.length : Int) := by omega
      clear hA hc
      have hle := Wire.encLen_take_le ss (k + 1)
      have hst := Wire.encLen_step ss k hlt
      have hl1 : (Wire.enc (ss.take k)).length + (2 + ss[k].length) ≤ 600 := by rw [Wire.enc_length]; omega
      have hl2 : ss[k].length ≤ 600 := by omega
      have hcv := hdr_conv wr ss[k].length
      have HS := Lib.hid (Wire.enc_step ss k hlt)
      clear hst hle hok
      generalize Wire.enc (ss.take k) = acc at *
      go_wp2
      go_roundw
      case rel => exact ⟨k + 1, by omega, by go_num, strEq (by rw [HS.out]; simp [Wire.enc1]), hbl.alloc hsz _⟩
      case measure => simp [intOf]; omega
    · have e : ss.take k = ss := List.take_of_length_le (by omega)
      rw [e]
      clear e
      go_wp2
      go_ret2
      exact ⟨rfl, hbl⟩

set_option maxRecDepth 100000 in
set_option maxHeartbeats 400000 in
theorem parts_no (A : Option Addr) (ca : Nat) (ss : List Bytes) (w : World) (hm : ss.length ≤ maxLen) (hss : ∀ s ∈ ss, s.length ≤ maxLen) (hf : Wire.fitsB ss = false) (hA : Row w A (scells ss)) :
    Calls Try.prog 21 #[.slice A ss.length ca] w fun e w' => e = .returned (.tuple #[.string (S []), .bool false]) ∧ Below w.heap.size w w' := by
  unfold maxLen at hm hss
  have hbad : 600 < Wire.encLen ss := by simpa [Wire.fitsB] using hf
  clear hf
  go_enter Try.func21, Try.ntmps21
  go_wp2
  go_loopw [4, 9] (fun o i wr => ∃ k : Nat, k ≤ ss.length ∧ i = .int .i64 k ∧ o = .string (S (Wire.enc (ss.take k))) ∧ Wire.encLen (ss.take k) ≤ 600 ∧ Below w.heap.size w wr) (fun _ i _ => ss.length - (intOf i).toNat)
  case atStart => exact ⟨0, Nat.zero_le _, rfl, rfl, by simp [Wire.encLen], Below.refl _ _⟩
  case round =>
    obtain ⟨k, hk, rfl, rfl, hso, hbl⟩ := hrel
    have hsz := hbl.size
    by_cases hlt : k < ss.length
    · obtain ⟨g, off, rfl, hc⟩ := hA.below hbl (by rw [scells_length]; omega)
      have h1 := hc k (by rw [scells_length]; exact hlt)
      simp only [scells, List.getElem_map] at h1
      have hi0 : (0 : Int) ≤ (k : Int) := by omega
      have hi1 : (k : Int) < (ss.length : Int) := by omega
      have hl9 := hss ss[k] (List.getElem_mem hlt)
      clear hA hc hss
      have hst := Wire.encLen_step ss k hlt
      have hl1 : (Wire.enc (ss.take k)).length ≤ 600 := by rw [Wire.enc_length]; omega
      have HL := Lib.hid (Wire.enc_length (ss.take k))
      have hcv := hdr_conv wr ss[k].length
      have HS := Lib.hid (Wire.enc_step ss k hlt)
      by_cases hl2 : ss[k].length ≤ 600
      · by_cases hl3 : Wire.encLen (ss.take (k + 1)) ≤ 600
        · have hl4 : (Wire.enc (ss.take k)).length + (2 + ss[k].length) ≤ 600 := by rw [Wire.enc_length]; omega
          clear hst hso hbad
          generalize Wire.enc (ss.take k) = acc at *
          go_wp2
          go_roundw
          case rel => exact ⟨k + 1, by omega, by go_num, strEq (by rw [HS.out]; simp [Wire.enc1]), hl3, hbl.alloc hsz _⟩
          case measure => simp [intOf]; omega
        · have hl4 : 600 < (Wire.enc (ss.take k)).length + (2 + ss[k].length) := by rw [Wire.enc_length]; omega
          clear hst hso hbad hl3
          generalize Wire.enc (ss.take k) = acc at *
          go_wp2
          go_ret2
          exact ⟨rfl, hbl.alloc hsz _⟩
      · clear hst hso hbad
        generalize Wire.enc (ss.take k) = acc at *
        go_wp2
        go_ret2
        exact ⟨rfl, hbl⟩
    · exfalso
      rw [List.take_of_length_le (by omega)] at hso
      omega
end Go.Proofs.Ytgmanaciadfkdaa
