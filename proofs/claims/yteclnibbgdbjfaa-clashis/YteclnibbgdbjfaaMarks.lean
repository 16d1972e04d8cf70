/- The reference: SameBook returns whether two books are the same. It writes nothing that was there. -/
import Derived.Test.YteclnibbgdbjfaaBooks
import Derived.Test.YteclnibbgdbjfaaMarkRow
namespace Go.Proofs.Yteclnibbgdbjfaa
set_option maxRecDepth 100000
open Go.RowKit

end Go.Proofs.Yteclnibbgdbjfaa
