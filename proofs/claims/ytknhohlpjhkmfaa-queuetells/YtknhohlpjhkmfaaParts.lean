/- The reference's Parts returns the encoding of a list of strings, and whether it is one of at most 600 bytes and 60 strings. It writes nothing that was there. -/
import Derived.Test.YtknhohlpjhkmfaaKit
import Derived.Test.YtknhohlpjhkmfaaBase
namespace Go.Proofs.Ytknhohlpjhkmfaa
open Go.RowKit

end Go.Proofs.Ytknhohlpjhkmfaa
