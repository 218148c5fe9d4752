/- Contracts of package enc (layer 4) on lists, by the evaluator with lists. -/
import Derived.Test.YtppjkdlpmmalaaaDoorEnc
import Derived.Test.YtppjkdlpmmalaaaDoorBytesL
namespace Go.Proofs.YtppjkdlpmmalaaaDoor
open Go.RowKit Sim S2
set_option linter.unusedVariables false
set_option linter.unusedSimpArgs false

/-- An instruction's cells; a list of instructions. -/
def inC (i : In) : List Value := [.int .i64 i.op, .int .i64 i.rd, .int .i64 i.a, .int .i64 i.b, .int .i64 i.imm, .bool i.aq, .bool i.rl]
def insE (n : Nat) (f : Nat → In) : LE := ⟨24, 7, n, fun j => inC (f j), false, false, true⟩
end Go.Proofs.YtppjkdlpmmalaaaDoor
