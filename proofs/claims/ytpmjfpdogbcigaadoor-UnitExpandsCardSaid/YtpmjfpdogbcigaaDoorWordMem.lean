/- Contracts of package word (layer 1) for bytes. -/
import Derived.Test.YtpmjfpdogbcigaaDoorRows
import Derived.Test.YtpmjfpdogbcigaaDoorPlain01
import Derived.Test.YtpmjfpdogbcigaaDoorKit01
namespace Go.Proofs.YtpmjfpdogbcigaaDoor
open Go.RowKit

end Go.Proofs.YtpmjfpdogbcigaaDoor
