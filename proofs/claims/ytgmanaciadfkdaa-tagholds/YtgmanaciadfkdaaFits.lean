/- slices.Equal at []string returns whether two lists of strings are the same; wire.fits returns whether the encodings of a list of strings have at most 600 bytes together. Both write nothing. -/
import Derived.Test.YtgmanaciadfkdaaKit
import Derived.Test.YtgmanaciadfkdaaBase
import Derived.Test.YtgmanaciadfkdaaApps
namespace Go.Proofs.Ytgmanaciadfkdaa
open Go.RowKit

set_option maxHeartbeats 400000 in
theorem fits (A : Option Addr) (ca : Nat) (ss : List Bytes) (w : World) (hm : ss.length ≤ maxLen) (b : Bool) (hb : Wire.fitsB ss = b) (hA : Row w A (scells ss)) :
    Calls Try.prog 28 #[.slice A ss.length ca] w fun e w' => e = .returned (.bool b) ∧ w = w' := by
  unfold maxLen at hm
  have HB := Lib.hid hb
  clear hb
  go_enter Try.func28, Try.ntmps28
  go_wp2
  go_loop [3, 8] (fun l i => ∃ k n : Nat, k ≤ ss.length ∧ i = .int .i64 k ∧ l = .int .i64 (600 - (n : Int)) ∧ n ≤ 600 ∧ Hid (Wire.encLen (ss.take k) = n)) (fun _ i => ss.length - (intOf i).toNat)
  case atStart => exact ⟨0, 0, Nat.zero_le _, rfl, rfl, by omega, rfl⟩
  case round =>
    obtain ⟨k, n, hk, rfl, rfl, hn, hpre⟩ := hrel
    by_cases hlt : k < ss.length
    · obtain ⟨g, off, rfl, hc⟩ := hA (by rw [scells_length]; omega)
      have h1 := hc k (by rw [scells_length]; exact hlt)
      simp only [scells, List.getElem_map] at h1
      have hi0 : (0 : Int) ≤ (k : Int) := by omega
      have hi1 : (k : Int) < (ss.length : Int) := by omega
      have hst := Wire.encLen_step ss k hlt
      rw [hpre.out] at hst
      have hle := Wire.encLen_take_le ss (k + 1)
      clear hA hc
      by_cases hgt : n + (2 + ss[k].length) ≤ 600
      · have HS := Lib.hid hst
        clear hst hle
        go_wp2
        go_round
        case rel => exact ⟨k + 1, n + (2 + ss[k].length), by omega, by go_num, by go_num, by omega, HS⟩
        case measure => simp [intOf]; omega
      · have HF : Hid (b = false) := by
          show b = false
          rw [← HB.out]
          simp only [Wire.fitsB, decide_eq_false_iff_not]
          omega
        clear hst hle
        go_wp2
        go_ret
        exact ⟨by rw [HF.out]; rfl, rfl⟩
    · have HF : Hid (b = true) := by
        show b = true
        rw [← HB.out]
        have := hpre.out
        rw [List.take_of_length_le (by omega)] at this
        simp only [Wire.fitsB, decide_eq_true_eq]
        omega
      go_wp2
      go_ret
      exact ⟨by rw [HF.out]; rfl, rfl⟩
end Go.Proofs.Ytgmanaciadfkdaa
/- wire.Put and the reference's Parts. -/
namespace Go.Proofs.Ytgmanaciadfkdaa
open Go.RowKit

set_option maxHeartbeats 400000 in
theorem put_no (A : Option Addr) (ca : Nat) (ss : List Bytes) (w : World) (hm : ss.length ≤ maxLen) (hb : Wire.okB ss = false) (hA : Row w A (scells ss)) :
    Calls Try.prog 23 #[.slice A ss.length ca] w fun e w' => e = .returned (.tuple #[.string (S []), .int .i64 2]) ∧ w = w' := by
  by_cases h60 : ss.length ≤ 60
  · have hf : Wire.fitsB ss = false := by simpa [Wire.okB, h60] using hb
    clear hb
    go_enter Try.func23, Try.ntmps23
    go_wp2_with (go_at_call 28; refine (fits A ca ss _ hm false hf hA).mono ?_; rintro e w' ⟨rfl, rfl⟩)
    go_ret2
    exact ⟨rfl, rfl⟩
  · clear hb
    unfold maxLen at hm
    go_enter Try.func23, Try.ntmps23
    go_wp2
    go_ret2
    exact ⟨rfl, rfl⟩

theorem hdr_cells (w : World) (m : Nat) (t : TypeId) (hm : m ≤ 600) : ∀ j u, (bcells [UInt8.ofNat (m / 256), UInt8.ofNat m])[j]? = some u →
    (w.alloc (.cells #[.int .u8 ((m : Int) / 256), .int .u8 ((m : Int) % 256)] t)).cell? ((⟨w.heap.size, 0, none⟩ : Addr).add j) = some u := by
  have e : #[Value.int .u8 ((m : Int) / 256), .int .u8 ((m : Int) % 256)] = (bcells [UInt8.ofNat (m / 256), UInt8.ofNat m]).toArray := by
    have h1 : (UInt8.ofNat (m / 256)).toNat = m / 256 := by simp; omega
    have h2 : (UInt8.ofNat m).toNat = m % 256 := by simp
    simp only [bcells, List.map_cons, List.map_nil, h1, h2]
    simp
  rw [e]
  exact cells_new _ _ _ _ rfl

set_option maxHeartbeats 400000 in
theorem put_yes (A : Option Addr) (ca : Nat) (ss : List Bytes) (w : World) (hb : Wire.okB ss = true) (hA : Row w A (scells ss)) :
    Calls Try.prog 23 #[.slice A ss.length ca] w fun e w' => e = .returned (.tuple #[.string (S (Wire.enc ss)), .int .i64 0]) ∧ Below w.heap.size w w' := by
  obtain ⟨h60, hf⟩ : ss.length ≤ 60 ∧ Wire.fitsB ss = true := by simpa [Wire.okB] using hb
  clear hb
  have hm : ss.length ≤ maxLen := by unfold maxLen; omega
  go_enter Try.func23, Try.ntmps23
  go_wp2_with (go_at_call 28; refine (fits A ca ss _ hm true hf hA).mono ?_; rintro e w' ⟨rfl, rfl⟩)
  go_loopw [4, 17] (fun o i wr => ∃ k : Nat, k ≤ ss.length ∧ i = .int .i64 k ∧ wr.ownsRow w.heap.size 5 1 o (Wire.enc (ss.take k)).length (bcells (Wire.enc (ss.take k))) ∧ Below w.heap.size w wr) (fun _ i _ => ss.length - (intOf i).toNat)
  case atStart => exact ⟨0, Nat.zero_le _, rfl, World.ownsRow_nil _ _ _ _, Below.refl _ _⟩
  case round =>
    obtain ⟨k, hk, rfl, hown, hbl⟩ := hrel
    have hsz := hbl.size
    by_cases hlt : k < ss.length
    · obtain ⟨g, off, rfl, hc⟩ := hA.below hbl (by rw [scells_length]; omega)
      have h1 := hc k (by rw [scells_length]; exact hlt)
      simp only [scells, List.getElem_map] at h1
      have hi0 : (0 : Int) ≤ (k : Int) := by omega
      have hi1 : (k : Int) < (ss.length : Int) := by omega
      clear hA hc
      have hle := Wire.encLen_take_le ss (k + 1)
      have hst := Wire.encLen_step ss k hlt
      have hok : Wire.encLen ss ≤ 600 := by simpa [Wire.fitsB] using hf
      have hl1 : (Wire.enc (ss.take k)).length ≤ 600 := by rw [Wire.enc_length]; omega
      have hl2 : ss[k].length ≤ 600 := by omega
      clear hst hle hok
      go_wp2_with (first
        | (at_builtin; refine app_u8 _ rfl _ _ rfl w.heap.size _ (Wire.enc (ss.take k)) rfl (hown.alloc _) ⟨wr.heap.size, 0, none⟩ 2 [UInt8.ofNat (ss[k].length / 256), UInt8.ofNat ss[k].length] 2 rfl rfl (hdr_cells _ _ _ hl2) (by simp; omega) (by simp; omega) ?_; intro v1 w1 hown1 hgrow1)
        | (at_builtin; refine app_str _ rfl _ _ rfl w.heap.size _ (Wire.enc (ss.take k) ++ [UInt8.ofNat (ss[k].length / 256), UInt8.ofNat ss[k].length]) rfl hown1 ss[k] rfl (by simp; omega) (by have := hgrow1.size; simp at this; omega) ?_; intro v2 w2 hown2 hgrow2))
      have hb1 : Below w.heap.size w w1 := (hbl.alloc hsz _).grown hgrow1 (by simp; omega) (fun g' hg' => (hown.lt g' hg').1)
      have hb2 : Below w.heap.size w w2 := hb1.grown hgrow2 hb1.size (fun g' hg' => (hown1.lt g' hg').1)
      rw [List.append_assoc] at hown2
      have HS : Hid (w2.ownsRow w.heap.size 5 1 v2 (Wire.enc (ss.take (k + 1))).length (bcells (Wire.enc (ss.take (k + 1))))) := by
        show w2.ownsRow w.heap.size 5 1 v2 _ _
        rw [Wire.enc_step ss k hlt]
        exact hown2
      go_roundw
      case rel => exact ⟨k + 1, by omega, by go_num, HS.out, hb2⟩
      case measure => simp [intOf]; omega
    · have e : ss.take k = ss := List.take_of_length_le (by omega)
      rw [e] at hown
      clear e
      have hcv := conv_own (P := Try.prog) Try.underlying47 Try.underlying5 Try.underlying9 hown
      go_wp2
      go_ret2
      exact ⟨rfl, hbl⟩
theorem put_two (a b : Bytes) (w : World) (g : Nat) (hg : g = w.heap.size) (h : a.length + b.length ≤ 596) (t : TypeId) :
    Calls Try.prog 23 #[.slice (some ⟨g, 0, none⟩) 2 2] (w.alloc (.cells #[.string (S a), .string (S b)] t)) fun e w' => e = .returned (.tuple #[.string (S (Wire.enc [a, b])), .int .i64 0]) ∧ Below (w.alloc (.cells #[.string (S a), .string (S b)] t)).heap.size (w.alloc (.cells #[.string (S a), .string (S b)] t)) w' :=
  put_yes (some ⟨g, 0, none⟩) 2 [a, b] _ (by simp [Wire.okB, Wire.fitsB, Wire.encLen]; omega) (Row.new w g _ _ t hg rfl)
end Go.Proofs.Ytgmanaciadfkdaa
