/- Contracts of the answers by definition for layer 2. -/
import Derived.Test.YtimgongaenpgkaaDoorRows
import Derived.Test.YtimgongaenpgkaaDoorPlain02
import Derived.Test.YtimgongaenpgkaaDoorKit02
namespace Go.Proofs.YtimgongaenpgkaaDoor
open Go.RowKit

end Go.Proofs.YtimgongaenpgkaaDoor
