/- Layer 13: the reference: twice, whole. -/
import Derived.Test.YtmaffamhjmlonaaTwice13
set_option linter.unusedVariables false
set_option linter.unusedSimpArgs false
namespace Go.Proofs.Ytmaffamhjmlonaa
open Go.RowKit Sim S2
theorem twice_ret {gl : Gl} (c : Cn) (w a : Nat) (hc : CnOk gl c) (sc : CnSm gl c) (hw : w < c.rn) (ha : a < lenV (c.rv gl w)) (W : World) (hG : GlobOk gl W) : Ret Try.prog 19 #[cnV c, .int .i64 w, .int .i64 a] (.bool (twiZ gl c w a)) W := by
 rw [twiZ_eq]
 simp only [qN]
 refine LRet.plain (?_ : LRet Try.prog 19 [cnV c, .int .i64 w, .int .i64 a] false [.inl (.bool (twB gl c w a))] W)
 have hA : ArgsOk W [.inl (cnV c), .inl (.int .i64 w), .inl (.int .i64 a)] [cnV c, .int .i64 w, .int .i64 a] := ⟨rfl, rfl, rfl, trivial⟩
 have hs1 := sc.2.1
 unfold twB
 by_cases h : skipN (tw2 gl c (rfG gl (c.rv gl w) a) w a) (w + 1) 0 = w + 1
 . rw [show Nat.beq (skipN (tw2 gl c (rfG gl (c.rv gl w) a) w a) (w + 1) 0) (w + 1) = true from by rw [h]; exact Nat.beq_refl _]
   refine fn_ok (enD0_ok gl) (fuel := 1000) (d := 30) (plan := [⟨twP, twQ [8], some (some 0), twS c (rfG gl (c.rv gl w) a) w a [iS 8 (w + 1)]⟩]) (orc := []) (fls := [[true, true], [true], [true]]) (l := [(pre (rowB gl (c.rv gl w) (rfE gl (c.rv gl w))), true), (pre (decide (a < (lenV (c.rv gl w)))), true), (pre (rowB gl (c.rv gl w) (rfE gl (c.rv gl w))), true), (pre (idxB ((a : Int)) (lenV (c.rv gl w))), true), (pre (rowB gl c.r (rwE gl c.r)), true), (pre (decide (w < c.rn)), true), (pre (rowB gl c.r (rwE gl c.r)), true), (pre (decide (w < c.rn)), true), (pre (rowB gl c.r (rwE gl c.r)), true), (pre (idxB ((w : Int)) c.rn), true)]) (tr := [⟨.loop (twK twP), twS c (rfG gl (c.rv gl w) a) w a [iS 8 0], some (some 0), twS c (rfG gl (c.rv gl w) a) w a [iS 8 (w + 1)]⟩]) (by kernel_rfl) ?_ Try.func19 W _ hG hA fun t ht => ?_
   . refine qF ?_ ?_ ?_ ?_ <| qF ?_ ?_ ?_ ?_ <| qA ?_ <| qA ?_ <| qZ
     . exact rowB_ok.mpr (by first | exact hc.rw | exact hc.rf _ (by omega))
     . exact ob_lt (by omega)
     . exact rowB_ok.mpr (by first | exact hc.rw | exact hc.rf _ (by omega))
     . exact ob_idx (by omega)
     . exact rowB_ok.mpr (by first | exact hc.rw | exact hc.rf _ (by omega))
     . exact ob_lt (by omega)
     . exact rowB_ok.mpr (by first | exact hc.rw | exact hc.rf _ (by omega))
     . exact ob_lt (by omega)
     . exact rowB_ok.mpr (by first | exact hc.rw | exact hc.rf _ (by omega))
     . exact ob_idx (by omega)
   . obtain rfl := List.mem_singleton.mp ht
     exact two_yes gl c _ w a hc sc hw h W hG
 . rw [show Nat.beq (skipN (tw2 gl c (rfG gl (c.rv gl w) a) w a) (w + 1) 0) (w + 1) = false from by rw [<- Bool.not_eq_true]; exact fun hb => h (qB hb)]
   refine fn_ok (enD0_ok gl) (fuel := 1000) (d := 30) (plan := [⟨twP, twQ [8], some none, twT⟩]) (orc := []) (fls := [[true, true], [true], [true]]) (l := [(pre (rowB gl (c.rv gl w) (rfE gl (c.rv gl w))), true), (pre (decide (a < (lenV (c.rv gl w)))), true), (pre (rowB gl (c.rv gl w) (rfE gl (c.rv gl w))), true), (pre (idxB ((a : Int)) (lenV (c.rv gl w))), true), (pre (rowB gl c.r (rwE gl c.r)), true), (pre (decide (w < c.rn)), true), (pre (rowB gl c.r (rwE gl c.r)), true), (pre (decide (w < c.rn)), true), (pre (rowB gl c.r (rwE gl c.r)), true), (pre (idxB ((w : Int)) c.rn), true)]) (tr := [⟨.loop (twK twP), twS c (rfG gl (c.rv gl w) a) w a [iS 8 0], some none, twT⟩]) (by kernel_rfl) ?_ Try.func19 W _ hG hA fun t ht => ?_
   . refine qF ?_ ?_ ?_ ?_ <| qF ?_ ?_ ?_ ?_ <| qA ?_ <| qA ?_ <| qZ
     . exact rowB_ok.mpr (by first | exact hc.rw | exact hc.rf _ (by omega))
     . exact ob_lt (by omega)
     . exact rowB_ok.mpr (by first | exact hc.rw | exact hc.rf _ (by omega))
     . exact ob_idx (by omega)
     . exact rowB_ok.mpr (by first | exact hc.rw | exact hc.rf _ (by omega))
     . exact ob_lt (by omega)
     . exact rowB_ok.mpr (by first | exact hc.rw | exact hc.rf _ (by omega))
     . exact ob_lt (by omega)
     . exact rowB_ok.mpr (by first | exact hc.rw | exact hc.rf _ (by omega))
     . exact ob_idx (by omega)
   . obtain rfl := List.mem_singleton.mp ht
     exact two_no gl c _ w a hc sc hw h W hG
def decCII : List Value -> Option (Cn × Int × Int)
 | [.agg ⟨[.slice a n c, .slice b m d]⟩, .int .i64 x, .int .i64 y] => some (⟨a, n, c, b, m, d⟩, x, y)
 | _ => none
theorem decCII_eq : ∀ l x, decCII l = some x -> l = [cnV x.1, .int .i64 x.2.1, .int .i64 x.2.2] := fun l x h => by
 unfold decCII at h
 split at h
 . simp only [qS] at h
   subst h; rfl
 . cases h
noncomputable def pTwice (gl : Gl) : PTab := prow 19 decCII (fun x => .bool (twiZ gl x.1 x.2.1 x.2.2)) (fun x => propB (CnOk gl x.1 /\ CnSm gl x.1 /\ 0 <= x.2.1 /\ x.2.1 < (x.1.rn : Int) /\ 0 <= x.2.2 /\ x.2.2 < (lenV (x.1.rv gl x.2.1.toNat) : Int)))
theorem pTwice_ok {gl : Gl} : PTabOk Try.prog gl (pTwice gl) := .row decCII_eq fun x h w hG => by
 obtain ⟨h1, h2, h3, h4, h5, h6⟩ := propB_ok.mp h
 obtain ⟨c, y, z⟩ := x
 obtain ⟨y, rfl⟩ := Int.eq_ofNat_of_zero_le h3
 obtain ⟨z, rfl⟩ := Int.eq_ofNat_of_zero_le h5
 simp only [qN] at h6
 exact twice_ret c y z h1 h2 (by simpa using h4) (by omega) w hG
end Go.Proofs.Ytmaffamhjmlonaa
