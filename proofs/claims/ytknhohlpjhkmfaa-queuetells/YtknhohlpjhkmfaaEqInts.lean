/- slices.Equal at []int returns true at two slices that hold one list of ints; it writes nothing. -/
import Derived.Test.YtknhohlpjhkmfaaKit
namespace Go.Proofs.Ytknhohlpjhkmfaa
open Go.RowKit

def icells (zs : List Int) : List Value := zs.map fun z => .int .i64 z
theorem icells_length (zs : List Int) : (icells zs).length = zs.length := by simp [icells]

end Go.Proofs.Ytknhohlpjhkmfaa
