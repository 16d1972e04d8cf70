/- The reference's BookFault returns the first error of a book. It writes nothing that was there. -/
import Derived.Test.YtdibccebaaagoaaBook
import Derived.Test.YtdibccebaaagoaaRefPath
import Derived.Test.YtdibccebaaagoaaApps
namespace Go.Proofs.Ytdibccebaaagoaa
open Go.RowKit

end Go.Proofs.Ytdibccebaaagoaa
