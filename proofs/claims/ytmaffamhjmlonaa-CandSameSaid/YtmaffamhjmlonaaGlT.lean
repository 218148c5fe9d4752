/- What is said of the heap's blocks. -/
import Derived.Test.YtmaffamhjmlonaaK02
set_option linter.unusedVariables false
set_option linter.unusedSimpArgs false
namespace Go.Proofs.Ytmaffamhjmlonaa
abbrev Gl := Nat -> Option (List Go.Value)
end Go.Proofs.Ytmaffamhjmlonaa
