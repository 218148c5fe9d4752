/- Lists of instructions; conditions that are propositions. -/
import Derived.Test.YtckgpcpcjhomiaaRows
import Derived.Test.YtckgpcpcjhomiaaPlain03
import Derived.Test.YtckgpcpcjhomiaaS2I
namespace Go.Proofs.Ytckgpcpcjhomiaa
open Go.RowKit Sim S2
set_option linter.unusedVariables false

/-- An instruction's cells; a list of instructions. -/
def inC (i : In) : List Value := [.int .i64 i.op, .int .i64 i.rd, .int .i64 i.a, .int .i64 i.b, .int .i64 i.imm, .bool i.aq, .bool i.rl]
def insE (n : Nat) (f : Nat → In) : LE := ⟨32, 7, n, fun j => inC (f j), false, false, true⟩
end Go.Proofs.Ytckgpcpcjhomiaa
