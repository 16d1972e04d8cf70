/- mark.Said and the reference's Two return the 17 bytes: the kind and both numbers; mark.Two returns their hash. They write nothing that was there. -/
import Derived.Test.YthkhafgcpmoalaaNum
import Derived.Test.YthkhafgcpmoalaaMark
import Derived.Test.YthkhafgcpmoalaaApps
import Derived.Deep.RegionWith
namespace Go.Proofs.Ythkhafgcpmoalaa
open Go.RowKit

def said (k : UInt8) (a b : Nat) : Bytes := k :: (be8 a ++ be8 b)

theorem conv_at (w : World) (g : Nat) (k : UInt8) (hc : w.cell? ⟨g, 0, none⟩ = some (.int .u8 (k.toNat : Int))) :
    (convert 80 9 (.slice (some ⟨g, 0, none⟩) 1 1)).run Try.prog w = .ok (.string (S [k])) w := by
  rw [run_convert_bytes_arg (P := Try.prog) _ 80 5 Try.underlying80 Try.underlying5 g 0 1 1 [(k.toNat : Int)] rfl (fun i hi => by
    obtain rfl : i = 0 := by omega
    rw [Nat.zero_add, hc]
    rfl) 9 Try.underlying9]
  simp [strOfNums, S]
theorem new_cell' (w : World) (v : Value) (t : TypeId) : ((w.alloc (.cells #[v] t)).drew).cell? ⟨w.heap.size, 0, none⟩ = some v := new_cell w v t

theorem balloc {a b : World} (h : Below a.heap.size a b) (o : Obj) : Below a.heap.size a (b.alloc o) := h.alloc h.size o
theorem bdrew {a b : World} (h : Below a.heap.size a b) : Below a.heap.size a b.drew := below_drewN h 1



end Go.Proofs.Ythkhafgcpmoalaa
