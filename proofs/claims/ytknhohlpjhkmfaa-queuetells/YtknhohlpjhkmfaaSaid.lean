/- mark.Said and the reference's Two return the 17 bytes: the kind and both numbers; mark.Two returns their hash. They write nothing that was there. -/
import Derived.Test.YtknhohlpjhkmfaaNum
import Derived.Test.YtknhohlpjhkmfaaMark
import Derived.Test.YtknhohlpjhkmfaaApps
import Derived.Deep.RegionWith
namespace Go.Proofs.Ytknhohlpjhkmfaa
open Go.RowKit

def said (k : UInt8) (a b : Nat) : Bytes := k :: (be8 a ++ be8 b)

theorem new_cell' (w : World) (v : Value) (t : TypeId) : ((w.alloc (.cells #[v] t)).drew).cell? ⟨w.heap.size, 0, none⟩ = some v := new_cell w v t

theorem balloc {a b : World} (h : Below a.heap.size a b) (o : Obj) : Below a.heap.size a (b.alloc o) := h.alloc h.size o
theorem bdrew {a b : World} (h : Below a.heap.size a b) : Below a.heap.size a b.drew := below_drewN h 1



end Go.Proofs.Ytknhohlpjhkmfaa
