/- mark.Said and the reference's Two return the 17 bytes: the kind and both numbers; mark.Two returns their hash. They write nothing that was there. -/
import Derived.Test.YtlobpjpkldmnaaaNum
import Derived.Test.YtlobpjpkldmnaaaMark
import Derived.Test.YtlobpjpkldmnaaaApps
import Derived.Deep.RegionWith
namespace Go.Proofs.Ytlobpjpkldmnaaa
open Go.RowKit

def said (k : UInt8) (a b : Nat) : Bytes := k :: (be8 a ++ be8 b)

theorem conv_at (w : World) (g : Nat) (k : UInt8) (hc : w.cell? ⟨g, 0, none⟩ = some (.int .u8 (k.toNat : Int))) :
    (convert 69 9 (.slice (some ⟨g, 0, none⟩) 1 1)).run Try.prog w = .ok (.string (S [k])) w := by
  rw [run_convert_bytes_arg (P := Try.prog) _ 69 5 Try.underlying69 Try.underlying5 g 0 1 1 [(k.toNat : Int)] rfl (fun i hi => by
    obtain rfl : i = 0 := by omega
    rw [Nat.zero_add, hc]
    rfl) 9 Try.underlying9]
  simp [strOfNums, S]
theorem new_cell' (w : World) (v : Value) (t : TypeId) : ((w.alloc (.cells #[v] t)).drew).cell? ⟨w.heap.size, 0, none⟩ = some v := new_cell w v t

theorem balloc {a b : World} (h : Below a.heap.size a b) (o : Obj) : Below a.heap.size a (b.alloc o) := h.alloc h.size o
theorem bdrew {a b : World} (h : Below a.heap.size a b) : Below a.heap.size a b.drew := below_drewN h 1

set_option maxRecDepth 100000 in
set_option maxHeartbeats 400000 in
theorem markSaid (k : UInt8) (a b : Nat) (w : World) (ha : a < 18446744073709551616) (hb : b < 18446744073709551616) :
    Calls Try.prog 39 #[.int .u8 (k.toNat : Int), .int .u64 (a : Int), .int .u64 (b : Int)] w fun e w' => e = .returned (.string (S (said k a b))) ∧ Below w.heap.size w w' := by
  have hA := fun w => Lib.hid (num_any a w ha)
  have hB := fun w => Lib.hid (num_any b w hb)
  have hC := fun (w : World) (g : Nat) hc => conv_at w g k hc
  have hp := be8_length a
  have hq := be8_length b
  have HS : Hid (said k a b = k :: (be8 a ++ be8 b)) := rfl
  generalize said k a b = s at *
  generalize be8 a = p at *
  generalize be8 b = q at *
  clear ha hb
  go_enter Try.func39, Try.ntmps39
  go_wp2
  go_region_with (first | (go_at_call_of 47 a; refine (hA _).out.mono ?_; rintro e w1 ⟨rfl, hb1⟩; try have hc1 := kept (new_cell' w (.int .u8 (k.toNat : Int)) 5) hb1) | (go_at_call_of 47 b; refine (hB _).out.mono ?_; rintro e w2 ⟨rfl, hb2⟩; first | have hc2 := kept hc1 hb2 | have hc2 := kept (new_cell w1 (.int .u8 (k.toNat : Int)) 5) hb2 | skip))
  all_goals go_wp2
  all_goals go_ret
  all_goals refine ⟨congrArg (fun s => Ending.returned (.string s)) (congrArg S HS.out.symm), ?_⟩
  all_goals first | exact below_chain (below_chain (balloc (bdrew (Below.refl _ _)) _) hb1) hb2 | exact below_chain (balloc (below_chain (bdrew (Below.refl _ _)) hb1) _) hb2 | exact balloc (below_chain (below_chain (bdrew (Below.refl _ _)) hb1) hb2) _

set_option maxRecDepth 100000 in
set_option maxHeartbeats 400000 in
theorem refTwo (k : UInt8) (a b : Nat) (w : World) (ha : a < 18446744073709551616) (hb : b < 18446744073709551616) :
    Calls Try.prog 32 #[.int .u8 (k.toNat : Int), .int .u64 (a : Int), .int .u64 (b : Int)] w fun e w' => e = .returned (.string (S (said k a b))) ∧ Below w.heap.size w w' := by
  have hA := fun w => Lib.hid (refNum_any a w ha)
  have hB := fun w => Lib.hid (refNum_any b w hb)
  have hC := fun (w : World) (g : Nat) hc => conv_at w g k hc
  have hp := be8_length a
  have hq := be8_length b
  have HS : Hid (said k a b = k :: (be8 a ++ be8 b)) := rfl
  generalize said k a b = s at *
  generalize be8 a = p at *
  generalize be8 b = q at *
  clear ha hb
  go_enter Try.func32, Try.ntmps32
  go_wp2
  go_region_with (first | (go_at_call_of 44 a; refine (hA _).out.mono ?_; rintro e w1 ⟨rfl, hb1⟩; try have hc1 := kept (new_cell' w (.int .u8 (k.toNat : Int)) 5) hb1) | (go_at_call_of 44 b; refine (hB _).out.mono ?_; rintro e w2 ⟨rfl, hb2⟩; first | have hc2 := kept hc1 hb2 | have hc2 := kept (new_cell w1 (.int .u8 (k.toNat : Int)) 5) hb2 | skip))
  all_goals go_wp2
  all_goals go_ret
  all_goals refine ⟨congrArg (fun s => Ending.returned (.string s)) (congrArg S HS.out.symm), ?_⟩
  all_goals first | exact below_chain (below_chain (balloc (bdrew (Below.refl _ _)) _) hb1) hb2 | exact below_chain (balloc (below_chain (bdrew (Below.refl _ _)) hb1) _) hb2 | exact balloc (below_chain (below_chain (bdrew (Below.refl _ _)) hb1) hb2) _

set_option maxHeartbeats 400000 in
theorem markTwo (k : UInt8) (a b : Nat) (w : World) (ha : a < 18446744073709551616) (hb : b < 18446744073709551616) :
    Calls Try.prog 49 #[.int .u8 (k.toNat : Int), .int .u64 (a : Int), .int .u64 (b : Int)] w fun e w' => e = .returned (.int .u64 (Hash.of (said k a b) : Int)) ∧ Below w.heap.size w w' := by
  have hS := fun w => Lib.hid (markSaid k a b w ha hb)
  have hO := fun w => Lib.hid (markOf (said k a b) w (by show _ ≤ (2 : Nat) ^ 63 - 1; simp [said, be8]))
  clear ha hb
  generalize said k a b = s at *
  go_enter Try.func49, Try.ntmps49
  go_wp2_with fail
  refine (hS _).out.mono ?_
  rintro e w1 ⟨rfl, hb1⟩
  go_wp2_with fail
  refine (hO _).out.mono ?_
  rintro e w2 ⟨rfl, m, rfl⟩
  go_wp2
  go_ret
  exact ⟨rfl, below_drewN hb1 m⟩
end Go.Proofs.Ytlobpjpkldmnaaa
