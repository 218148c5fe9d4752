/- Contracts of package isa (layer 3), by the evaluator. -/
import Derived.Test.YtcofdcpadbpmnaaRows
import Derived.Test.YtcofdcpadbpmnaaPlain03
import Derived.Test.YtcofdcpadbpmnaaSimCalls
import Derived.Test.YtcofdcpadbpmnaaWord
import Derived.KernelRfl
namespace Go.Proofs.Ytcofdcpadbpmnaa
open Go.RowKit Sim
set_option linter.unusedVariables false
set_option linter.unusedSimpArgs false

abbrev Gl := Nat → Option (List Value)
/-- Marks: all open. -/
def O1 : List (List Bool) := [[true]]
def O2 : List (List Bool) := [[true], [true]]
def O3 : List (List Bool) := [[true], [true], [true]]
def OIn : List (List Bool) := [[true, true, true, true, true, true, true]]
theorem btw_eq (v l m : Int) : btwB v l m = (decide (l ≤ v) && decide (v ≤ m)) := by unfold btwB; simp
end Go.Proofs.Ytcofdcpadbpmnaa
