/- Layer 13: CandDecodes and CandSame, whole, under what is asked of the program. -/
import Derived.Test.YtmaffamhjmlonaaLaw13C
import Derived.Test.YtmaffamhjmlonaaLarge13
set_option linter.unusedVariables false
set_option linter.unusedSimpArgs false
namespace Go.Proofs.Ytmaffamhjmlonaa
open Go Go.RowKit Sim S2
def csP0 : Pick := { ts := [2, 3], bs := [0, 1], ls := [] }
noncomputable def enL (gl : Gl) (pt : PTab) (lt : LTab) : S2.Env := enD gl tAw13 pt lt
theorem tAw13_ok {gl : Gl} (hAw : ∀ w, Ret Try.prog 7 #[] (.bool true) w) : TabOk Try.prog gl tAw13 := tab0 fun w hG => hAw w
theorem candSame_ret {W : World} {c b : Cn} (hc : CnOk (frz W) c) (hb : CnOk (frz W) b) (hAw : ∀ w, Ret Try.prog 7 #[] (.bool true) w) (H : lrgZ (frz W) c = false -> lrgZ (frz W) b = false -> CsH W c b) : LRet Try.prog 5 [cnV c, cnV b] false [.inl (.bool true)] W := by
 have ha : ArgsOk W [.inl (cnV c), .inl (cnV b)] [cnV c, cnV b] := ⟨rfl, rfl, trivial⟩
 have hE : CallOk (enL (frz W) (pLarge (frz W)) noL) := enD_ok (tAw13_ok hAw) pLarge_ok (.none _ _)
 cases h1 : lrgZ (frz W) c
 . cases h2 : lrgZ (frz W) b
   . refine fn_ok hE (fuel := 1000) (d := 30) (plan := [⟨[1, 1], csP0, some none, ccT2⟩]) (orc := [false, false]) (fls := [[true, true], [true, true]]) (l := [(lrgZ (frz W) b, false), (pre (propB (CnOk (frz W) b)), true), (lrgZ (frz W) c, false), (pre (propB (CnOk (frz W) c)), true)]) (tr := [⟨csK, csT c b, some none, ccT2⟩]) (by kernel_rfl) (qA h2 <| qA (propB_ok.mpr hb) <| qA h1 <| qA (propB_ok.mpr hc) qZ) Try.func5 W _ (frz_ok W) ha fun t ht => ?_
     obtain rfl := List.mem_singleton.mp ht
     exact cs_told hE (H h1 h2)
   . refine fn_ok hE (fuel := 1000) (d := 30) (plan := []) (orc := [false, true]) (fls := [[true, true], [true, true]]) (l := [(lrgZ (frz W) b, true), (pre (propB (CnOk (frz W) b)), true), (lrgZ (frz W) c, false), (pre (propB (CnOk (frz W) c)), true)]) (tr := []) (by kernel_rfl) (qA h2 <| qA (propB_ok.mpr hb) <| qA h1 <| qA (propB_ok.mpr hc) qZ) Try.func5 W _ (frz_ok W) ha fun t ht => by cases ht
 . refine fn_ok hE (fuel := 1000) (d := 30) (plan := []) (orc := [true]) (fls := [[true, true], [true, true]]) (l := [(lrgZ (frz W) c, true), (pre (propB (CnOk (frz W) c)), true)]) (tr := []) (by kernel_rfl) (qA h1 <| qA (propB_ok.mpr hc) qZ) Try.func5 W _ (frz_ok W) ha fun t ht => by cases ht
end Go.Proofs.Ytmaffamhjmlonaa
