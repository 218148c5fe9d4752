/- DynD, Law13C, Law13D. -/
import Derived.Test.YtmaffamhjmlonaaK12
import Derived.Test.YtmaffamhjmlonaaK13
import Derived.Test.YtmaffamhjmlonaaLaw13B
set_option linter.unusedVariables false
set_option linter.unusedSimpArgs false
namespace Go.Proofs.Ytmaffamhjmlonaa.S2
open Go Go.RowKit Sim
theorem TR.some {n : Nat} {ν : Nu} {a : Act} {l : List (Nat × SV)} {own : Mem} {mem : Bool} (hn : a.tmps.size = n) (hd : a.defers = []) (h : ∀ p ∈ l, Is ν p.2 (a.tmps.getD p.1 undef)) : TR n ν { tmps := l, own := own, lo := 0, llo := 0, mem := mem, orc := [], obl := [] } a :=
 ⟨hn, fun t => by
   rcases look_mem l t with h1 | ⟨x, h1, h2⟩
   . show Is ν (look l t) _
     rw [h1]; trivial
   . show Is ν (look l t) _
     rw [h2]
     exact h (t, x) h1, hd⟩
end Go.Proofs.Ytmaffamhjmlonaa.S2
namespace Go.Proofs.Ytmaffamhjmlonaa
open Go Go.RowKit Sim S2
theorem CnSm.keep {w w2 : World} {c : Cn} (h : CnSm (frz w) c) (hb : Below w.heap.size w w2) (hk : CnOk (frz w) c) : CnSm (frz w2) c :=
 ⟨h.1, h.2.1, fun i hi => by rw [hv_keep hb hk hi]; exact h.2.2.1 i hi, fun i hi => by rw [rv_keep hb hk hi]; exact h.2.2.2 i hi⟩
end Go.Proofs.Ytmaffamhjmlonaa
namespace Go.Proofs.Ytmaffamhjmlonaa
open Go Go.RowKit Sim S2
def cdP0 : Pick := { ts := [0], bs := [], ls := [0] }
noncomputable def enL (gl : Gl) (pt : PTab) (lt : LTab) : S2.Env := enD gl tAw13 pt lt
theorem tAw13_ok {gl : Gl} (hAw : ∀ w, Ret Try.prog 7 #[] (.bool true) w) : TabOk Try.prog gl tAw13 := tab0 fun w hG => hAw w
theorem candDecodes_ret {W : World} (B : List Int) (hBy : B.length <= 4000 -> sameBytes (byE B) (byE B)) (hDec : B.length <= 4000 -> DecAny W B) (hAw : ∀ w, Ret Try.prog 7 #[] (.bool true) w) (vals : List Value) (ha : ArgsOk W [.inr { byE B with own := false }] vals) : LRet Try.prog 4 vals false [.inl (.bool true)] W := by
 by_cases h : B.length > 4000
 . refine fn_ok (E := enL (frz W) noP noL) (enD_ok (tAw13_ok hAw) (.none _ _) (.none _ _)) (fuel := 1000) (d := 30) (plan := []) (orc := [true]) (fls := [[]]) (l := [(decide ((B.length : Int) > 4000), true)]) (tr := []) (by kernel_rfl) (qA (ob_yes (by omega)) qZ) Try.func4 W _ (frz_ok W) ha fun t ht => by cases ht
 . refine fn_ok (E := enL (frz W) noP noL) (enD_ok (tAw13_ok hAw) (.none _ _) (.none _ _)) (fuel := 1000) (d := 30) (plan := [⟨[1, 1], cdP0, some none, ccT⟩]) (orc := [false]) (fls := [[]]) (l := [(decide ((B.length : Int) > 4000), false)]) (tr := [⟨cdK, cdS B [], some none, ccT⟩]) (by kernel_rfl) (qA (ob_no (by omega)) qZ) Try.func4 W _ (frz_ok W) ha fun t ht => ?_
   obtain rfl := List.mem_singleton.mp ht
   exact cd_told (tAw13_ok hAw) (.none _ _) (.none _ _) B (hBy (by omega)) (hDec (by omega)) hAw
end Go.Proofs.Ytmaffamhjmlonaa
