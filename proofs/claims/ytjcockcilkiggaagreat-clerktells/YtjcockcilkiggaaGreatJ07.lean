/- The reference's Parts returns the encoding of a list of strings, and whether it is one of at most 600 bytes and 60 strings. It writes nothing that was there. -/
import Derived.Test.YtjcockcilkiggaaGreatJ01
import Derived.Test.YtjcockcilkiggaaGreatJ03
import Derived.Handy
import Derived.Lib.BufferWrite
import Derived.Test.YtjcockcilkiggaaGreatJ04
import Derived.Deep.RegionWith
import Derived.Test.YtjcockcilkiggaaGreatJ06
namespace Go.Proofs.YtjcockcilkiggaaGreat
open Go.RowKit

theorem hdr_conv (w : World) (m : Nat) :
    (convert 130 9 (.slice (some ⟨w.heap.size, 0, none⟩) 2 2)).run Tryz.prog (w.alloc (.cells #[.int .u8 ((m : Int) / 256), .int .u8 ((m : Int) % 256)] 5)) =
      .ok (.string (S [UInt8.ofNat (m / 256), UInt8.ofNat m])) (w.alloc (.cells #[.int .u8 ((m : Int) / 256), .int .u8 ((m : Int) % 256)] 5)) := by
  rw [run_convert_bytes_arg (P := Tryz.prog) _ 130 5 Tryz.underlying130 Tryz.underlying5 w.heap.size 0 2 2 [((m / 256 : Nat) : Int), ((m % 256 : Nat) : Int)] rfl (fun i hi => by
    have hi' : i = 0 ∨ i = 1 := by omega
    rcases hi' with rfl | rfl <;> simp) 9 Tryz.underlying9]
  congr 2
  have h1 : ((m : Int) / 256).toNat = m / 256 := by omega
  have h2 : ((m : Int) % 256).toNat = m % 256 := by omega
  have h3 : UInt8.ofNat (m % 256) = UInt8.ofNat m := by apply UInt8.toNat_inj.1; simp
  simp [strOfNums, S, h1, h2, h3]

set_option maxRecDepth 100000 in
set_option maxHeartbeats 400000 in
theorem parts_yes (A : Option Addr) (ca : Nat) (ss : List Bytes) (w : World) (hm : ss.length ≤ maxLen) (hf : Wire.fitsB ss = true) (b : Bool) (hb : decide ((ss.length : Int) ≤ 60) = b) (hA : Row w A (scells ss)) :
    Calls Tryz.prog 89 #[.slice A ss.length ca] w fun e w' => e = .returned (.tuple #[.string (S (Wire.enc ss)), .bool b]) ∧ Below w.heap.size w w' := by
  unfold maxLen at hm
  have hok : Wire.encLen ss ≤ 600 := by simpa [Wire.fitsB] using hf
  clear hf
  go_enter Tryz.func89, Tryz.ntmps89
  go_wp2
  go_loopw [4, 9] (fun o i wr => ∃ k : Nat, k ≤ ss.length ∧ i = .int .i64 k ∧ o = .string (S (Wire.enc (ss.take k))) ∧ Below w.heap.size w wr) (fun _ i _ => ss.length - (intOf i).toNat)
  case atStart => exact ⟨0, Nat.zero_le _, rfl, rfl, Below.refl _ _⟩
  case round =>
    obtain ⟨k, hk, rfl, rfl, hbl⟩ := hrel
    have hsz := hbl.size
    by_cases hlt : k < ss.length
    · obtain ⟨g, off, rfl, hc⟩ := hA.below hbl (by rw [scells_length]; omega)
      have h1 := hc k (by rw [scells_length]; exact hlt)
      simp only [scells, List.getElem_map] at h1
      have hi0 : (0 : Int) ≤ (k : Int) := by omega
      have hi1 : (k : Int) < (ss.length : Int) := by omega
      clear hA hc
      have hle := Wire.encLen_take_le ss (k + 1)
      have hst := Wire.encLen_step ss k hlt
      have hl1 : (Wire.enc (ss.take k)).length + (2 + ss[k].length) ≤ 600 := by rw [Wire.enc_length]; omega
      have hl2 : ss[k].length ≤ 600 := by omega
      have hcv := hdr_conv wr ss[k].length
      have HS := Lib.hid (Wire.enc_step ss k hlt)
      clear hst hle hok
      generalize Wire.enc (ss.take k) = acc at *
      go_wp2
      go_roundw
      case rel => exact ⟨k + 1, by omega, by go_num, strEq (by rw [HS.out]; simp [Wire.enc1]), hbl.alloc hsz _⟩
      case measure => simp [intOf]; omega
    · have e : ss.take k = ss := List.take_of_length_le (by omega)
      rw [e]
      clear e
      go_wp2
      go_ret2
      exact ⟨rfl, hbl⟩

set_option maxRecDepth 100000 in
set_option maxHeartbeats 400000 in
theorem parts_no (A : Option Addr) (ca : Nat) (ss : List Bytes) (w : World) (hm : ss.length ≤ maxLen) (hss : ∀ s ∈ ss, s.length ≤ maxLen) (hf : Wire.fitsB ss = false) (hA : Row w A (scells ss)) :
    Calls Tryz.prog 89 #[.slice A ss.length ca] w fun e w' => e = .returned (.tuple #[.string (S []), .bool false]) ∧ Below w.heap.size w w' := by
  unfold maxLen at hm hss
  have hbad : 600 < Wire.encLen ss := by simpa [Wire.fitsB] using hf
  clear hf
  go_enter Tryz.func89, Tryz.ntmps89
  go_wp2
  go_loopw [4, 9] (fun o i wr => ∃ k : Nat, k ≤ ss.length ∧ i = .int .i64 k ∧ o = .string (S (Wire.enc (ss.take k))) ∧ Wire.encLen (ss.take k) ≤ 600 ∧ Below w.heap.size w wr) (fun _ i _ => ss.length - (intOf i).toNat)
  case atStart => exact ⟨0, Nat.zero_le _, rfl, rfl, by simp [Wire.encLen], Below.refl _ _⟩
  case round =>
    obtain ⟨k, hk, rfl, rfl, hso, hbl⟩ := hrel
    have hsz := hbl.size
    by_cases hlt : k < ss.length
    · obtain ⟨g, off, rfl, hc⟩ := hA.below hbl (by rw [scells_length]; omega)
      have h1 := hc k (by rw [scells_length]; exact hlt)
      simp only [scells, List.getElem_map] at h1
      have hi0 : (0 : Int) ≤ (k : Int) := by omega
      have hi1 : (k : Int) < (ss.length : Int) := by omega
      have hl9 := hss ss[k] (List.getElem_mem hlt)
      clear hA hc hss
      have hst := Wire.encLen_step ss k hlt
      have hl1 : (Wire.enc (ss.take k)).length ≤ 600 := by rw [Wire.enc_length]; omega
      have HL := Lib.hid (Wire.enc_length (ss.take k))
      have hcv := hdr_conv wr ss[k].length
      have HS := Lib.hid (Wire.enc_step ss k hlt)
      by_cases hl2 : ss[k].length ≤ 600
      · by_cases hl3 : Wire.encLen (ss.take (k + 1)) ≤ 600
        · have hl4 : (Wire.enc (ss.take k)).length + (2 + ss[k].length) ≤ 600 := by rw [Wire.enc_length]; omega
          clear hst hso hbad
          generalize Wire.enc (ss.take k) = acc at *
          go_wp2
          go_roundw
          case rel => exact ⟨k + 1, by omega, by go_num, strEq (by rw [HS.out]; simp [Wire.enc1]), hl3, hbl.alloc hsz _⟩
          case measure => simp [intOf]; omega
        · have hl4 : 600 < (Wire.enc (ss.take k)).length + (2 + ss[k].length) := by rw [Wire.enc_length]; omega
          clear hst hso hbad hl3
          generalize Wire.enc (ss.take k) = acc at *
          go_wp2
          go_ret2
          exact ⟨rfl, hbl.alloc hsz _⟩
      · clear hst hso hbad
        generalize Wire.enc (ss.take k) = acc at *
        go_wp2
        go_ret2
        exact ⟨rfl, hbl⟩
    · exfalso
      rw [List.take_of_length_le (by omega)] at hso
      omega
end Go.Proofs.YtjcockcilkiggaaGreat
/- wire.Num and the reference's Num: a number in eight bytes, most significant first. They write nothing that was there. -/
namespace Go.Proofs.YtjcockcilkiggaaGreat
open Go.RowKit

/-- Eight bytes, most significant first. -/
def be8 (n : Nat) : Bytes :=
  [UInt8.ofNat (n / 72057594037927936), UInt8.ofNat (n / 281474976710656), UInt8.ofNat (n / 1099511627776), UInt8.ofNat (n / 4294967296), UInt8.ofNat (n / 16777216), UInt8.ofNat (n / 65536), UInt8.ofNat (n / 256), UInt8.ofNat n]

theorem conv_new (w : World) (g : Nat) (hg : g = w.heap.size) (zs : List Int) (m : Nat) (hm : zs.length = m) (t : TypeId) :
    (convert 130 9 (.slice (some ⟨g, 0, none⟩) m m)).run Tryz.prog (w.alloc (.cells (zs.map (Value.int .u8)).toArray t)) = .ok (.string (S (zs.map fun z => UInt8.ofNat z.toNat))) (w.alloc (.cells (zs.map (Value.int .u8)).toArray t)) := by
  subst hg
  rw [run_convert_bytes_arg (P := Tryz.prog) _ 130 5 Tryz.underlying130 Tryz.underlying5 w.heap.size 0 m m zs hm (fun i hi => by
    rw [Nat.zero_add, World.cell?_alloc_new]
    simp [List.getD, show i < zs.length by omega]) 9 Tryz.underlying9]
  rfl

theorem ofNat_congr {a b : Nat} (h : a % 256 = b % 256) : UInt8.ofNat a = UInt8.ofNat b := by
  apply UInt8.toNat_inj.1
  simpa using h

set_option maxRecDepth 100000 in
theorem num_conv (n : Nat) (w : World) :
    (convert 130 9 (.slice (some ⟨w.heap.size, 0, none⟩) 8 8)).run Tryz.prog (w.alloc (.cells #[.int .u8 ((n : Int) / 256 / 256 / 256 / 256 / 256 / 256 / 256), .int .u8 ((n : Int) / 256 / 256 / 256 / 256 / 256 / 256 % 256), .int .u8 ((n : Int) / 256 / 256 / 256 / 256 / 256 % 256), .int .u8 ((n : Int) / 256 / 256 / 256 / 256 % 256), .int .u8 ((n : Int) / 256 / 256 / 256 % 256), .int .u8 ((n : Int) / 256 / 256 % 256), .int .u8 ((n : Int) / 256 % 256), .int .u8 ((n : Int) % 256)] 140)) =
      .ok (.string (S (be8 n))) (w.alloc (.cells #[.int .u8 ((n : Int) / 256 / 256 / 256 / 256 / 256 / 256 / 256), .int .u8 ((n : Int) / 256 / 256 / 256 / 256 / 256 / 256 % 256), .int .u8 ((n : Int) / 256 / 256 / 256 / 256 / 256 % 256), .int .u8 ((n : Int) / 256 / 256 / 256 / 256 % 256), .int .u8 ((n : Int) / 256 / 256 / 256 % 256), .int .u8 ((n : Int) / 256 / 256 % 256), .int .u8 ((n : Int) / 256 % 256), .int .u8 ((n : Int) % 256)] 140)) := by
  have h := conv_new w _ rfl [(n : Int) / 256 / 256 / 256 / 256 / 256 / 256 / 256, (n : Int) / 256 / 256 / 256 / 256 / 256 / 256 % 256, (n : Int) / 256 / 256 / 256 / 256 / 256 % 256, (n : Int) / 256 / 256 / 256 / 256 % 256, (n : Int) / 256 / 256 / 256 % 256, (n : Int) / 256 / 256 % 256, (n : Int) / 256 % 256, (n : Int) % 256] 8 rfl 140
  simp only [List.map_cons, List.map_nil] at h
  rw [h]
  have e : ∀ a b : Bytes, a = b → (Result.ok (Value.string (S a)) (w.alloc (.cells #[.int .u8 ((n : Int) / 256 / 256 / 256 / 256 / 256 / 256 / 256), .int .u8 ((n : Int) / 256 / 256 / 256 / 256 / 256 / 256 % 256), .int .u8 ((n : Int) / 256 / 256 / 256 / 256 / 256 % 256), .int .u8 ((n : Int) / 256 / 256 / 256 / 256 % 256), .int .u8 ((n : Int) / 256 / 256 / 256 % 256), .int .u8 ((n : Int) / 256 / 256 % 256), .int .u8 ((n : Int) / 256 % 256), .int .u8 ((n : Int) % 256)] 140))) = .ok (.string (S b)) _ := fun a b h => by rw [h]
  apply e
  unfold be8
  congr 1
  · exact ofNat_congr (by omega)
  congr 1
  · exact ofNat_congr (by omega)
  congr 1
  · exact ofNat_congr (by omega)
  congr 1
  · exact ofNat_congr (by omega)
  congr 1
  · exact ofNat_congr (by omega)
  congr 1
  · exact ofNat_congr (by omega)
  congr 1
  · exact ofNat_congr (by omega)
  congr 1
  exact ofNat_congr (by omega)

set_option maxRecDepth 100000 in
set_option maxHeartbeats 400000 in
theorem num_any (n : Nat) (w : World) (hn : n < 18446744073709551616) :
    Calls Tryz.prog 103 #[.int .u64 (n : Int)] w fun e w' => e = .returned (.string (S (be8 n))) ∧ Below w.heap.size w w' := by
  have hcv := num_conv n w
  go_enter Tryz.func103, Tryz.ntmps103
  go_wp2
  go_rounds 9
  go_ret
  exact ⟨rfl, (Below.refl _ _).alloc (Nat.le_refl _) _⟩

theorem conv_one (w : World) (g : Nat) (hg : g = w.heap.size) (z : Int) (t : TypeId) :
    (convert 130 9 (.slice (some ⟨g, 0, none⟩) 1 1)).run Tryz.prog (w.alloc (.cells #[.int .u8 z] t)) = .ok (.string (S [UInt8.ofNat z.toNat])) (w.alloc (.cells #[.int .u8 z] t)) :=
  conv_new w g hg [z] 1 rfl t

theorem be8_ref (n : Nat) : S [UInt8.ofNat (n / 256 / 256 / 256 / 256 / 256 / 256 / 256 % 256)] ++ (S [UInt8.ofNat (n / 256 / 256 / 256 / 256 / 256 / 256 % 256)] ++ (S [UInt8.ofNat (n / 256 / 256 / 256 / 256 / 256 % 256)] ++ (S [UInt8.ofNat (n / 256 / 256 / 256 / 256 % 256)] ++ (S [UInt8.ofNat (n / 256 / 256 / 256 % 256)] ++ (S [UInt8.ofNat (n / 256 / 256 % 256)] ++ (S [UInt8.ofNat (n / 256 % 256)] ++ (S [UInt8.ofNat (n % 256)] ++ ⟨#[]⟩))))))) = S (be8 n) := by
  rw [← S_nil]
  simp only [S_append, List.cons_append, List.nil_append, be8]
  rw [ofNat_congr (a := n / 256 / 256 / 256 / 256 / 256 / 256 / 256 % 256) (b := n / 72057594037927936) (by omega), ofNat_congr (a := n / 256 / 256 / 256 / 256 / 256 / 256 % 256) (b := n / 281474976710656) (by omega), ofNat_congr (a := n / 256 / 256 / 256 / 256 / 256 % 256) (b := n / 1099511627776) (by omega),
    ofNat_congr (a := n / 256 / 256 / 256 / 256 % 256) (b := n / 4294967296) (by omega), ofNat_congr (a := n / 256 / 256 / 256 % 256) (b := n / 16777216) (by omega), ofNat_congr (a := n / 256 / 256 % 256) (b := n / 65536) (by omega), ofNat_congr (a := n / 256 % 256) (b := n / 256) (by omega), ofNat_congr (a := n % 256) (b := n) (by omega)]

set_option maxRecDepth 100000 in
set_option maxHeartbeats 400000 in
theorem refNum_any (n : Nat) (w : World) (hn : n < 18446744073709551616) :
    Calls Tryz.prog 78 #[.int .u64 (n : Int)] w fun e w' => e = .returned (.string (S (be8 n))) ∧ Below w.heap.size w w' := by
  have hcv := conv_one
  go_enter Tryz.func78, Tryz.ntmps78
  go_wp2
  go_rounds 9
  go_ret
  exact ⟨congrArg (fun s => Ending.returned (.string s)) (be8_ref n), by go_grown⟩

theorem List.reverseRecOn' {α : Type} {P : List α → Prop} (nil : P []) (snoc : ∀ l b, P l → P (l ++ [b])) (l : List α) : P l := by
  rw [← List.reverse_reverse l]
  induction l.reverse with
  | nil => exact nil
  | cons a t ih => rw [List.reverse_cons]; exact snoc _ _ ih

/-- Eight bytes as a number. -/
def num8 : Bytes → Nat := List.foldl (fun n b => 256 * n + b.toNat) 0

theorem num8_be8 (n : Nat) (h : n < 18446744073709551616) : num8 (be8 n) = n := by
  simp only [num8, be8, List.foldl_cons, List.foldl_nil, UInt8.toNat_ofNat']
  omega

theorem be8_inj {n m : Nat} (hn : n < 18446744073709551616) (hm : m < 18446744073709551616) (h : be8 n = be8 m) : n = m := by
  rw [← num8_be8 n hn, h, num8_be8 m hm]
theorem be8_length (n : Nat) : (be8 n).length = 8 := rfl
end Go.Proofs.YtjcockcilkiggaaGreat
/- mark.Said and the reference's Two return the 17 bytes: the kind and both numbers; mark.Two returns their hash. They write nothing that was there. -/
namespace Go.Proofs.YtjcockcilkiggaaGreat
open Go.RowKit

def said (k : UInt8) (a b : Nat) : Bytes := k :: (be8 a ++ be8 b)

theorem conv_at (w : World) (g : Nat) (k : UInt8) (hc : w.cell? ⟨g, 0, none⟩ = some (.int .u8 (k.toNat : Int))) :
    (convert 130 9 (.slice (some ⟨g, 0, none⟩) 1 1)).run Tryz.prog w = .ok (.string (S [k])) w := by
  rw [run_convert_bytes_arg (P := Tryz.prog) _ 130 5 Tryz.underlying130 Tryz.underlying5 g 0 1 1 [(k.toNat : Int)] rfl (fun i hi => by
    obtain rfl : i = 0 := by omega
    rw [Nat.zero_add, hc]
    rfl) 9 Tryz.underlying9]
  simp [strOfNums, S]
theorem new_cell' (w : World) (v : Value) (t : TypeId) : ((w.alloc (.cells #[v] t)).drew).cell? ⟨w.heap.size, 0, none⟩ = some v := new_cell w v t

theorem balloc {a b : World} (h : Below a.heap.size a b) (o : Obj) : Below a.heap.size a (b.alloc o) := h.alloc h.size o
theorem bdrew {a b : World} (h : Below a.heap.size a b) : Below a.heap.size a b.drew := below_drewN h 1

set_option maxRecDepth 100000 in
set_option maxHeartbeats 400000 in
theorem markSaid (k : UInt8) (a b : Nat) (w : World) (ha : a < 18446744073709551616) (hb : b < 18446744073709551616) :
    Calls Tryz.prog 97 #[.int .u8 (k.toNat : Int), .int .u64 (a : Int), .int .u64 (b : Int)] w fun e w' => e = .returned (.string (S (said k a b))) ∧ Below w.heap.size w w' := by
  have hA := fun w => Lib.hid (num_any a w ha)
  have hB := fun w => Lib.hid (num_any b w hb)
  have hC := fun (w : World) (g : Nat) hc => conv_at w g k hc
  have hp := be8_length a
  have hq := be8_length b
  have HS : Hid (said k a b = k :: (be8 a ++ be8 b)) := rfl
  generalize said k a b = s at *
  generalize be8 a = p at *
  generalize be8 b = q at *
  clear ha hb
  go_enter Tryz.func97, Tryz.ntmps97
  go_wp2
  go_region_with (first | (go_at_call_of 103 a; refine (hA _).out.mono ?_; rintro e w1 ⟨rfl, hb1⟩; try have hc1 := kept (new_cell' w (.int .u8 (k.toNat : Int)) 5) hb1) | (go_at_call_of 103 b; refine (hB _).out.mono ?_; rintro e w2 ⟨rfl, hb2⟩; first | have hc2 := kept hc1 hb2 | have hc2 := kept (new_cell w1 (.int .u8 (k.toNat : Int)) 5) hb2 | skip))
  all_goals go_wp2
  all_goals go_ret
  all_goals refine ⟨congrArg (fun s => Ending.returned (.string s)) (congrArg S HS.out.symm), ?_⟩
  all_goals first | exact below_chain (below_chain (balloc (bdrew (Below.refl _ _)) _) hb1) hb2 | exact below_chain (balloc (below_chain (bdrew (Below.refl _ _)) hb1) _) hb2 | exact balloc (below_chain (below_chain (bdrew (Below.refl _ _)) hb1) hb2) _

set_option maxRecDepth 100000 in
set_option maxHeartbeats 400000 in
theorem refTwo (k : UInt8) (a b : Nat) (w : World) (ha : a < 18446744073709551616) (hb : b < 18446744073709551616) :
    Calls Tryz.prog 90 #[.int .u8 (k.toNat : Int), .int .u64 (a : Int), .int .u64 (b : Int)] w fun e w' => e = .returned (.string (S (said k a b))) ∧ Below w.heap.size w w' := by
  have hA := fun w => Lib.hid (refNum_any a w ha)
  have hB := fun w => Lib.hid (refNum_any b w hb)
  have hC := fun (w : World) (g : Nat) hc => conv_at w g k hc
  have hp := be8_length a
  have hq := be8_length b
  have HS : Hid (said k a b = k :: (be8 a ++ be8 b)) := rfl
  generalize said k a b = s at *
  generalize be8 a = p at *
  generalize be8 b = q at *
  clear ha hb
  go_enter Tryz.func90, Tryz.ntmps90
  go_wp2
  go_region_with (first | (go_at_call_of 78 a; refine (hA _).out.mono ?_; rintro e w1 ⟨rfl, hb1⟩; try have hc1 := kept (new_cell' w (.int .u8 (k.toNat : Int)) 5) hb1) | (go_at_call_of 78 b; refine (hB _).out.mono ?_; rintro e w2 ⟨rfl, hb2⟩; first | have hc2 := kept hc1 hb2 | have hc2 := kept (new_cell w1 (.int .u8 (k.toNat : Int)) 5) hb2 | skip))
  all_goals go_wp2
  all_goals go_ret
  all_goals refine ⟨congrArg (fun s => Ending.returned (.string s)) (congrArg S HS.out.symm), ?_⟩
  all_goals first | exact below_chain (below_chain (balloc (bdrew (Below.refl _ _)) _) hb1) hb2 | exact below_chain (balloc (below_chain (bdrew (Below.refl _ _)) hb1) _) hb2 | exact balloc (below_chain (below_chain (bdrew (Below.refl _ _)) hb1) hb2) _

set_option maxHeartbeats 400000 in
theorem markTwo (k : UInt8) (a b : Nat) (w : World) (ha : a < 18446744073709551616) (hb : b < 18446744073709551616) :
    Calls Tryz.prog 85 #[.int .u8 (k.toNat : Int), .int .u64 (a : Int), .int .u64 (b : Int)] w fun e w' => e = .returned (.int .u64 (Hash.of (said k a b) : Int)) ∧ Below w.heap.size w w' := by
  have hS := fun w => Lib.hid (markSaid k a b w ha hb)
  have hO := fun w => Lib.hid (markOf (said k a b) w (by show _ ≤ (2 : Nat) ^ 63 - 1; simp [said, be8]))
  clear ha hb
  generalize said k a b = s at *
  go_enter Tryz.func85, Tryz.ntmps85
  go_wp2_with fail
  refine (hS _).out.mono ?_
  rintro e w1 ⟨rfl, hb1⟩
  go_wp2_with fail
  refine (hO _).out.mono ?_
  rintro e w2 ⟨rfl, m, rfl⟩
  go_wp2
  go_ret
  exact ⟨rfl, below_drewN hb1 m⟩
end Go.Proofs.YtjcockcilkiggaaGreat
/- The reference: LeafSaid returns the preimage of entries of one path, NodeSaid that of two hashes. They write nothing that was there. -/
namespace Go.Proofs.YtjcockcilkiggaaGreat
open Go.RowKit

/-- What the entries say, one behind the other. -/
def leafBytes (es : List Ent) : Bytes := es.flatMap fun x => Wire.enc [x.1, x.2]
def leafOf (es : List Ent) : Bytes := if es = [] then [0] else 1 :: leafBytes es
theorem leafBytes_snoc (es : List Ent) (x : Ent) : leafBytes (es ++ [x]) = leafBytes es ++ Wire.enc [x.1, x.2] := by simp [leafBytes]
/-- The hash of nothing. -/
def nil0 : Nat := Hash.of [0]
def nodeOf (a b : Nat) : Bytes := if a = nil0 ∧ b = nil0 then [0] else said 2 a b

theorem parts_two (a b : Bytes) (w : World) (g : Nat) (hg : g = w.heap.size) (h : a.length + b.length ≤ 596) (t : TypeId) :
    Calls Tryz.prog 89 #[.slice (some ⟨g, 0, none⟩) 2 2] (w.alloc (.cells #[.string (S a), .string (S b)] t)) fun e w' => e = .returned (.tuple #[.string (S (Wire.enc [a, b])), .bool true]) ∧ Below (w.alloc (.cells #[.string (S a), .string (S b)] t)).heap.size (w.alloc (.cells #[.string (S a), .string (S b)] t)) w' :=
  parts_yes (some ⟨g, 0, none⟩) 2 [a, b] _ (by unfold maxLen; simp) (by simp [Wire.fitsB, Wire.encLen]; omega) true (by simp) (Row.new w g _ _ t hg rfl)

set_option maxRecDepth 100000 in
set_option maxHeartbeats 400000 in
theorem refLeaf (A : Option Addr) (c : Nat) (es : List Ent) (w : World) (hm : es.length ≤ 1000) (hes : ∀ x ∈ es, x.1.length + x.2.length ≤ 596) (hA : Row w A (encells es)) :
    Calls Tryz.prog 74 #[.slice A es.length c] w fun e w' => e = .returned (.string (S (leafOf es))) ∧ Below w.heap.size w w' := by
  rcases Nat.eq_zero_or_pos es.length with h0 | h0
  · obtain rfl : es = [] := List.eq_nil_of_length_eq_zero h0
    rw [List.length_nil]
    clear hes h0 hm hA
    go_enter Tryz.func74, Tryz.ntmps74
    go_wp2
    go_ret
    exact ⟨rfl, Below.refl _ _⟩
  · have c1 : ((es.length : Int) == 0) = false := by
      rw [beq_eq_false_iff_ne]
      omega
    have HL : Hid (leafOf es = 1 :: leafBytes es) := by
      show leafOf es = _
      rw [leafOf, if_neg (by rintro rfl; simp at h0)]
    have HE := Lib.hid hes
    clear hes h0
    go_enter Tryz.func74, Tryz.ntmps74
    go_wp2
    go_loopw [3, 13] (fun o i wr => ∃ (k : Nat) (out : Bytes), k ≤ es.length ∧ i = .int .i64 k ∧ o = .string (S out) ∧ out.length ≤ 1 + k * 600 ∧ Hid (out = 1 :: leafBytes (es.take k)) ∧ Below w.heap.size w wr) (fun _ i _ => es.length - (intOf i).toNat)
    case atStart => exact ⟨0, [1], Nat.zero_le _, rfl, rfl, by simp, rfl, Below.refl _ _⟩
    case round =>
      obtain ⟨k, out, hk, rfl, rfl, hol, HO, hbl⟩ := hrel
      have hsz := hbl.size
      clear c1
      by_cases hlt : k < es.length
      · obtain ⟨g, off, rfl, h1, h2⟩ := (hA.below hbl).ent k hlt
        have hi0 : (0 : Int) ≤ (k : Int) := by omega
        have hi1 : (k : Int) < (es.length : Int) := by omega
        have hx := HE.out _ (List.getElem_mem hlt)
        have HO' : Hid (out ++ Wire.enc [es[k].1, es[k].2] = 1 :: leafBytes (es.take (k + 1))) := by
          show out ++ _ = _
          rw [List.take_succ_eq_append_getElem hlt, leafBytes_snoc, HO.out]
          rfl
        have hel : (Wire.enc [es[k].1, es[k].2]).length ≤ 600 := by
          rw [Wire.enc_length]
          simp [Wire.encLen]
          omega
        have hP := fun w g hg t => Lib.hid (parts_two es[k].1 es[k].2 w g hg hx t)
        clear hA HO hx
        generalize Wire.enc [es[k].1, es[k].2] = z at *
        generalize es[k].1 = a at *
        generalize es[k].2 = b at *
        go_wp2_with fail
        refine (hP _ _ (by simp) _).out.mono ?_
        rintro e w1 ⟨rfl, hb1⟩
        have hb0 : Below w.heap.size w w1 := below_chain ((hbl.alloc hsz _).alloc (by simp; omega) _) hb1
        go_wp2
        go_roundw
        case rel => exact ⟨k + 1, out ++ z, by omega, by go_num, rfl, by rw [List.length_append]; omega, HO', hb0⟩
        case measure => simp [intOf]; omega
      · have HO' : Hid (leafOf es = out) := by
          show leafOf es = out
          rw [HL.out, HO.out, List.take_of_length_le (by omega)]
        go_wp2
        go_ret
        exact ⟨by rw [HO'.out]; rfl, hbl⟩

theorem refMark_0 (w : World) : Calls Tryz.prog 9 #[.string ⟨#[0]⟩] w fun e w' => e = .returned (.int .u64 (nil0 : Int)) ∧ w = w' := refMark [0] w (by show _ ≤ (2 : Nat) ^ 63 - 1; simp)

set_option maxRecDepth 100000 in
set_option maxHeartbeats 400000 in
theorem refNode (a b : Nat) (w : World) (ha : a < 18446744073709551616) (hb : b < 18446744073709551616) :
    Calls Tryz.prog 76 #[.int .u64 (a : Int), .int .u64 (b : Int)] w fun e w' => e = .returned (.string (S (nodeOf a b))) ∧ Below w.heap.size w w' := by
  have hZ := fun w => Lib.hid (refMark_0 w)
  have hT := fun w => Lib.hid (refTwo 2 a b w ha hb)
  have HN : Hid (nodeOf a b = if a = nil0 ∧ b = nil0 then [0] else said 2 a b) := rfl
  generalize said 2 a b = s at *
  generalize nodeOf a b = r at *
  generalize nil0 = z at *
  clear ha hb
  by_cases h1 : a = z
  · have c1 : ((a : Int) == (z : Int)) = true := by simp [h1]
    by_cases h2 : b = z
    · have c2 : ((b : Int) == (z : Int)) = true := by simp [h2]
      have HR : Hid (r = [0]) := by
        show r = _
        rw [HN.out, if_pos ⟨h1, h2⟩]
      clear h1 h2 HN hT
      go_enter Tryz.func76, Tryz.ntmps76
      go_wp2_with fail
      refine (hZ _).out.mono ?_
      rintro e w1 ⟨rfl, rfl⟩
      go_wp2
      go_ret
      exact ⟨by rw [HR.out]; rfl, Below.refl _ _⟩
    · have c2 : ((b : Int) == (z : Int)) = false := by
        rw [beq_eq_false_iff_ne]
        omega
      have HR : Hid (r = s) := by
        show r = _
        rw [HN.out, if_neg (fun h => h2 h.2)]
      clear h1 h2 HN
      go_enter Tryz.func76, Tryz.ntmps76
      go_wp2_with fail
      refine (hZ _).out.mono ?_
      rintro e w1 ⟨rfl, rfl⟩
      go_wp2_with fail
      refine (hT _).out.mono ?_
      rintro e w1 ⟨rfl, hb1⟩
      go_wp2
      go_ret
      exact ⟨by rw [HR.out]; rfl, hb1⟩
  · have c1 : ((a : Int) == (z : Int)) = false := by
      rw [beq_eq_false_iff_ne]
      omega
    have HR : Hid (r = s) := by
      show r = _
      rw [HN.out, if_neg (fun h => h1 h.1)]
    clear h1 HN
    go_enter Tryz.func76, Tryz.ntmps76
    go_wp2_with fail
    refine (hZ _).out.mono ?_
    rintro e w1 ⟨rfl, rfl⟩
    go_wp2_with fail
    refine (hT _).out.mono ?_
    rintro e w1 ⟨rfl, hb1⟩
    go_wp2
    go_ret
    exact ⟨by rw [HR.out]; rfl, hb1⟩
end Go.Proofs.YtjcockcilkiggaaGreat
