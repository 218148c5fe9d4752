/- Walk11, Wk11. -/
import Derived.Test.YtilljoemebbnjaaDoorK10
import Derived.Test.YtilljoemebbnjaaDoorOpen11
import Derived.Test.YtilljoemebbnjaaDoorAwk11
set_option linter.unusedVariables false
set_option linter.unusedSimpArgs false
namespace Go.Proofs.YtilljoemebbnjaaDoor
open Go.RowKit Go.ChangeShapes Go.WideShapes Go.ChangeAt Go.Deep Sim S2
theorem linkStubs_fr (hA : ∀ gl, GlTo gl11 gl → SaysLink gl) (x : Int) (w : World) (hG : GlobOk gl11 w) (hx : (Lit.int .i64 x).wf = true) : Ret Tryd.prog 4 #[.int .i64 x] (.bool true) w :=
  linkStubs_ret (hA gl11 fun _ h => h) x w hG
end Go.Proofs.YtilljoemebbnjaaDoor
namespace Go.Proofs.YtilljoemebbnjaaDoor
open Go.RowKit Go.ChangeShapes Go.WideShapes Go.ChangeAt Go.Deep Sim S2
theorem linkStubs_walk (x : Int) (w : World) (hG : GlobOk gl11 w) (hx : (Lit.int .i64 x).wf = true) : Ret Tryd.prog 4 #[.int .i64 x] (.bool true) w :=
  linkStubs_fr (fun _ h => saysLink h) x w hG hx
end Go.Proofs.YtilljoemebbnjaaDoor
