/- Contracts of the answers by definition for layer 3, and of what reads the table of names. -/
import Derived.Test.YtcofdcpadbpmnaaIsa
import Derived.Test.YtcofdcpadbpmnaaFind03
namespace Go.Proofs.Ytcofdcpadbpmnaa
open Go.RowKit Sim
set_option linter.unusedVariables false
set_option linter.unusedSimpArgs false

theorem refName_ret {gl : Gl} (op : Int) (w : World) (hG : GlobOk gl w) : Ret Try.prog 19 #[.int .i64 op] (.string (nameZ op)) w := by
  rcases op_cases op with ⟨n, h1, h2, rfl⟩ | h
  · rw [nameZ_nat]; exact refName_in n w h1 h2
  · rw [nameZ_out h]; exact refName_out op w h
def tRefName : Tab := row 19 decI fun x => .string (nameZ x)
theorem tRefName_ok {gl : Gl} : TabOk Try.prog gl tRefName := tabI fun x w hG => refName_ret x w hG
end Go.Proofs.Ytcofdcpadbpmnaa
