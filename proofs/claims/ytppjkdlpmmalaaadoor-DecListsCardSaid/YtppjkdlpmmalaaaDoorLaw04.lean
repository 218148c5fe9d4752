/- The laws of layer 4 on one and two instructions, by the evaluator. -/
import Derived.Test.YtppjkdlpmmalaaaDoorRef04
import Derived.Test.YtppjkdlpmmalaaaDoorEnc
import Derived.Test.YtppjkdlpmmalaaaDoorOpen03
namespace Go.Proofs.YtppjkdlpmmalaaaDoor
open Go.RowKit Sim
set_option linter.unusedVariables false
set_option linter.unusedSimpArgs false

/-- Equality of instructions, as the code has it. -/
def eqIn (i k : In) : Bool := i.op == k.op && (i.rd == k.rd && (i.a == k.a && (i.b == k.b && (i.imm == k.imm && (i.aq == k.aq && (i.rl == k.rl && true))))))
theorem eqIn_iff (i k : In) : eqIn i k = true ↔ i = k := by
  obtain ⟨a, b, c, d, e, f, g⟩ := i
  obtain ⟨a', b', c', d', e', f', g'⟩ := k
  simp [eqIn]
end Go.Proofs.YtppjkdlpmmalaaaDoor
