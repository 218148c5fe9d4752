/- Contracts of package word (layer 1), one for each function. -/
import Derived.Test.YtcofdcpadbpmnaaRows
import Derived.Test.YtcofdcpadbpmnaaPlain01
import Derived.Test.YtcofdcpadbpmnaaKit01
namespace Go.Proofs.Ytcofdcpadbpmnaa
open Go.RowKit

end Go.Proofs.Ytcofdcpadbpmnaa
