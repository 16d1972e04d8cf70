/- The reference's Ordered returns the distinct names in their order; it writes nothing that was there. -/
import Derived.Test.YtdibccebaaagoaaRefPath
import Derived.Test.YtdibccebaaagoaaApps
namespace Go.Proofs.Ytdibccebaaagoaa
open Go.RowKit

/-- A list of strings of the call's own. -/
def ListGives (T : List Bytes) (w : World) (e : Ending) (w' : World) : Prop := ∃ D d, e = .returned (.slice D T.length d) ∧ Row w' D (scells T) ∧ Below w.heap.size w w'
def sliceLen : Value → Nat | .slice _ n _ => n | _ => 0

end Go.Proofs.Ytdibccebaaagoaa
