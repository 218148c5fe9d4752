/- Layer 13: CandChecks, whole, under what is asked of the program. -/
import Derived.Test.YtmaffamhjmlonaaPEnc13
import Derived.Test.YtmaffamhjmlonaaK17
set_option linter.unusedVariables false
set_option linter.unusedSimpArgs false
namespace Go.Proofs.Ytmaffamhjmlonaa
open Go Go.RowKit Sim S2
def ccP0 : Pick := { ts := [1, 4], bs := [0], ls := [0] }
noncomputable def enK (gl : Gl) : S2.Env := enL gl (orP (pLarge gl) (orP (pRefCheck gl) (pCk gl))) (lEnc gl)
theorem candChecks_ret {W : World} {c : Cn} (hc : CnOk (frz W) c) (sc : CnSm (frz W) c) (hin : CnIn (frz W) c) (hAw : ∀ w, Ret Try.prog 7 #[] (.bool true) w) (hCk : PTabOk Try.prog (frz W) (pCk (frz W))) (hEn : LTabOk Try.prog (frz W) (lEnc (frz W)))
   (hBy : chkZ (frz W) c = 0 -> sameBytes (byE (bytL (frz W) c)) (byE (bytL (frz W) c))) (hDec : chkZ (frz W) c = 0 -> DecOk W c (bytL (frz W) c)) : LRet Try.prog 3 [cnV c] false [.inl (.bool true)] W := by
 have ha : ArgsOk W [.inl (cnV c)] [cnV c] := ⟨rfl, trivial⟩
 have hE : CallOk (enK (frz W)) := enD_ok (tAw13_ok hAw) (pLarge_ok.or (pRefCheck_ok.or hCk)) hEn
 have hne : ∀ x : Int, (x != x) = false := fun x => by simp
 cases h1 : lrgZ (frz W) c
 . by_cases h0 : chkZ (frz W) c = 0
   . have hB : encB (frz W) c = bytL (frz W) c := if_pos h0
     refine fn_ok hE (fuel := 1000) (d := 30) (plan := [⟨[1, 1, 1, 1, 1, 1], ccP0, some none, ccT⟩]) (orc := [false, false, false, false]) (fls := [[true, true]]) (l := [(chkZ (frz W) c != 0, false), (chkZ (frz W) c != chkZ (frz W) c, false), (chkZ (frz W) c != chkZ (frz W) c, false), (pre (propB (CnOk (frz W) c /\ CnSm (frz W) c /\ CnIn (frz W) c)), true), (pre (propB (CnOk (frz W) c /\ CnSm (frz W) c /\ CnIn (frz W) c)), true), (pre (propB (CnOk (frz W) c /\ CnSm (frz W) c)), true), (lrgZ (frz W) c, false), (pre (propB (CnOk (frz W) c)), true)]) (tr := [⟨ccK, ccS c (encB (frz W) c) [], some none, ccT⟩]) (by kernel_rfl) ?_ Try.func3 W _ (frz_ok W) ha fun t ht => ?_
     . exact qA (by rw [h0]; rfl) <| qA (hne _) <| qA (hne _) <| qA (propB_ok.mpr ⟨hc, sc, hin⟩) <| qA (propB_ok.mpr ⟨hc, sc, hin⟩) <| qA (propB_ok.mpr ⟨hc, sc⟩) <| qA h1 <| qA (propB_ok.mpr hc) qZ
     . obtain rfl := List.mem_singleton.mp ht
       show S2.Sem (enK (frz W)) W 56 ccK (ccS c (encB (frz W) c) []) (some none) ccT
       rw [hB]
       exact cc_told (tAw13_ok hAw) (pLarge_ok.or (pRefCheck_ok.or hCk)) hEn c hc (cnBd_of h0) hin (hBy h0) (hDec h0) hAw
   . have hB : encB (frz W) c = [] := if_neg h0
     refine fn_ok hE (fuel := 1000) (d := 30) (plan := []) (orc := [false, false, false, true, true]) (fls := [[true, true]]) (l := [(((encB (frz W) c).length : Int) == 0, true), (chkZ (frz W) c != 0, true), (chkZ (frz W) c != chkZ (frz W) c, false), (chkZ (frz W) c != chkZ (frz W) c, false), (pre (propB (CnOk (frz W) c /\ CnSm (frz W) c /\ CnIn (frz W) c)), true), (pre (propB (CnOk (frz W) c /\ CnSm (frz W) c /\ CnIn (frz W) c)), true), (pre (propB (CnOk (frz W) c /\ CnSm (frz W) c)), true), (lrgZ (frz W) c, false), (pre (propB (CnOk (frz W) c)), true)]) (tr := []) (by kernel_rfl) ?_ Try.func3 W _ (frz_ok W) ha fun t ht => by cases ht
     exact qA (by rw [hB]; rfl) <| qA (by simpa using h0) <| qA (hne _) <| qA (hne _) <| qA (propB_ok.mpr ⟨hc, sc, hin⟩) <| qA (propB_ok.mpr ⟨hc, sc, hin⟩) <| qA (propB_ok.mpr ⟨hc, sc⟩) <| qA h1 <| qA (propB_ok.mpr hc) qZ
 . refine fn_ok hE (fuel := 1000) (d := 30) (plan := []) (orc := [true]) (fls := [[true, true]]) (l := [(lrgZ (frz W) c, true), (pre (propB (CnOk (frz W) c)), true)]) (tr := []) (by kernel_rfl) (qA h1 <| qA (propB_ok.mpr hc) qZ) Try.func3 W _ (frz_ok W) ha fun t ht => by cases ht
end Go.Proofs.Ytmaffamhjmlonaa
