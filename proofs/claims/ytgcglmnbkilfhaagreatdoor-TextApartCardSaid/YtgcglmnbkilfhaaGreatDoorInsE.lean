/- Lists of instructions; conditions that are propositions. -/
import Derived.Test.YtgcglmnbkilfhaaGreatDoorRows
import Derived.Test.YtgcglmnbkilfhaaGreatDoorPlain03
import Derived.Test.YtgcglmnbkilfhaaGreatDoorS2
namespace Go.Proofs.YtgcglmnbkilfhaaGreatDoor
open Go.RowKit Sim S2
set_option linter.unusedVariables false

/-- An instruction's cells; a list of instructions. -/
def inC (i : In) : List Value := [.int .i64 i.op, .int .i64 i.rd, .int .i64 i.a, .int .i64 i.b, .int .i64 i.imm, .bool i.aq, .bool i.rl]
def insE (n : Nat) (f : Nat → In) : LE := ⟨23, 7, n, fun j => inC (f j), false, false, true⟩
noncomputable def propB (p : Prop) : Bool := @decide p (Classical.propDecidable p)
theorem propB_ok {p : Prop} : pre (propB p) = true ↔ p := by unfold pre propB; exact @decide_eq_true_iff p (Classical.propDecidable p)
end Go.Proofs.YtgcglmnbkilfhaaGreatDoor
