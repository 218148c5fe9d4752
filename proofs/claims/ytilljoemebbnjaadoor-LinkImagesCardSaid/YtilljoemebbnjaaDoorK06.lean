/- InsE, Lists04. -/
import Derived.Test.YtilljoemebbnjaaDoorS2I
import Derived.Test.YtilljoemebbnjaaDoorK03
import Derived.Test.YtilljoemebbnjaaDoorRef01
import Derived.Test.YtilljoemebbnjaaDoorPlain03
import Derived.Test.YtilljoemebbnjaaDoorEnc
import Derived.Test.YtilljoemebbnjaaDoorRows
set_option linter.unusedVariables false
set_option linter.unusedSimpArgs false
namespace Go.Proofs.YtilljoemebbnjaaDoor
open Go.RowKit Sim S2
def inC (i : In) : List Value := [.int .i64 i.op, .int .i64 i.rd, .int .i64 i.a, .int .i64 i.b, .int .i64 i.imm, .bool i.aq, .bool i.rl]
def insE (n : Nat) (f : Nat -> In) : LE := ⟨42, 7, n, fun j => inC (f j), false, false, true⟩
end Go.Proofs.YtilljoemebbnjaaDoor
namespace Go.Proofs.YtilljoemebbnjaaDoor
open Go.RowKit Sim S2
noncomputable def envA : S2.Env := env Tryd.prog encGl tEncode noP noL
theorem envA_ok : CallOk envA := env_ok tEncode_ok (.none _ _) (.none _ _)
noncomputable def wordsE (n : Nat) (f : Nat -> In) : LE := ⟨47, 1, n, fun j => [.int .u32 (wordE (f j))], true, false, true⟩
noncomputable def allS (n : Nat) (f : Nat -> In) (j : Nat) : S2.St := { tmps := [(5, .c 1), (10, .c 0), (11, .inl ([true], .int .i64 n)), (12, .inl ([true], .int .i64 j))], own := ⟨[], [insE n f, wordsE j f]⟩, lo := 0, llo := 0, mem := true, orc := [], obl := [] }
noncomputable def allP (f : Nat -> In) : Pick := { ts := [5, 10, 11, 12], bs := [], ls := [0, 1], nil := [(5, 47, 1, (wordsE 0 f).el)], opn := [11, 12] }
def allQ : Pick := { ts := [5, 10, 11, 12], bs := [], ls := [0, 2] }
def allPath : List Nat := [0, 1, 0, 1, 1]
noncomputable def allC : Code := codeAt (codeOf Tryd.prog 18) (0 :: allPath)
noncomputable def allS1 (n : Nat) (f : Nat -> In) (j : Nat) : S2.St := { allS n f j with tmps := [(5, .c 1), (10, .c 0), (11, .inl ([true], .int .i64 n)), (12, .inl ([true], .int .i64 (j + 1 : Nat)))], own := ⟨[], [insE n f, ⟨47, 1, j + 1, joinE j (wordsE j f).el (tabE [[.int .u32 (wordE (f j))]]), true, false, true⟩]⟩ }
theorem all_step (n : Nat) (f : Nat -> In) (hn : n <= 1000000000000) (j : Nat) (hj : j < n) (hm : mayB (f j) = true) (w : World) (hG : GlobOk encGl w) : S2.Sem envA w 32 allC (allS n f j) none (allS n f (j + 1)) :=
 (sem_iter envA_ok hG (p := allQ) (fuel := 1000) (s' := allS1 n f j) [true, false] [(pre (inI (j + 1)), true), (pre (decide (j + 1 <= maxLen /\ (j + 1) * 4 <= 140737488355328 /\ 0 < 1)), true), (errE (f j) != 0, false), (pre (decide (j < n)), true), (pre (idxB j n), true), (decide ((j : Int) < n), true)]
   (by kernel_rfl) (by kernel_rfl) (qA (ob_inI (by omega)) <| qA (ob_app (by omega) (by decide) (by decide)) <| qA (by simp [errE, hm]) <| qA (ob_lt hj) <| qA (ob_idx (by omega)) <| qA (ob_yes (by omega)) qZ)).same rfl rfl ⟨.refl _, ⟨rfl, rfl, rfl, rfl, rfl, joinE_one rfl⟩, trivial⟩ rfl
theorem all_last (n : Nat) (f : Nat -> In) (w : World) (hG : GlobOk encGl w) : S2.Sem envA w 32 allC (allS n f n) (some (some 0)) (allS n f n) :=
 sem_iter envA_ok hG (p := { ts := [5, 10, 11, 12], bs := [], ls := [0, 1] }) (fuel := 1000) [false] [(decide ((n : Int) < n), false)] (by kernel_rfl) (by kernel_rfl) (by simp)
end Go.Proofs.YtilljoemebbnjaaDoor
