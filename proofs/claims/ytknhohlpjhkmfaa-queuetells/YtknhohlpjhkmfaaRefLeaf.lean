/- The reference: LeafSaid returns the preimage of entries of one path, NodeSaid that of two hashes. They write nothing that was there. -/
import Derived.Test.YtknhohlpjhkmfaaBook
import Derived.Test.YtknhohlpjhkmfaaParts
import Derived.Test.YtknhohlpjhkmfaaSaid
import Derived.Test.YtknhohlpjhkmfaaRefMark
namespace Go.Proofs.Ytknhohlpjhkmfaa
open Go.RowKit

/-- What the entries say, one behind the other. -/
def leafBytes (es : List Ent) : Bytes := es.flatMap fun x => Wire.enc [x.1, x.2]
def leafOf (es : List Ent) : Bytes := if es = [] then [0] else 1 :: leafBytes es
theorem leafBytes_snoc (es : List Ent) (x : Ent) : leafBytes (es ++ [x]) = leafBytes es ++ Wire.enc [x.1, x.2] := by simp [leafBytes]
/-- The hash of nothing. -/
def nil0 : Nat := Hash.of [0]
def nodeOf (a b : Nat) : Bytes := if a = nil0 ∧ b = nil0 then [0] else said 2 a b

end Go.Proofs.Ytknhohlpjhkmfaa
