/- Layer 13: the reference: Check. -/
import Derived.Test.YtmaffamhjmlonaaK11
import Derived.Test.YtmaffamhjmlonaaTwiceF13
set_option linter.unusedVariables false
set_option linter.unusedSimpArgs false
namespace Go.Proofs.Ytmaffamhjmlonaa
open Go.RowKit Sim S2
def ckP1 : List Nat := [0, 1, 0, 1, 1]
def ckP2 : List Nat := [0, 1, 0, 1, 1, 1]
def ckP4 : List Nat := [0, 1, 0, 1, 1, 1, 1]
def ckI3 : List Nat := [0, 1, 0, 0, 1]
def ckI5 : List Nat := [0, 1, 1, 0, 0, 1]
noncomputable def ckK (p : List Nat) : Code := codeAt (codeOf Try.prog 8) (0 :: p)
def ckS (c : Cn) (l : List (Nat × S2.SV)) : S2.St := { tmps := [(1, .inr (0, 0, none))] ++ l, own := ⟨[cnB c], []⟩, lo := 0, llo := 0, mem := true, orc := [], obl := [] }
def ckQ (l : List Nat) : Pick := { ts := [1] ++ l, bs := [0], ls := [], opn := l }
def ckZ : Pick := { ts := [2], bs := [], ls := [] }
def ckT (e : Int) : S2.St := { tmps := [(2, .inl ([], .int .i64 e))], own := ⟨[], []⟩, lo := 0, llo := 0, mem := true, orc := [], obl := [] }
noncomputable def enF (gl : Gl) : S2.Env := enD gl noT (orP (pThere gl) (pTwice gl)) noL
theorem enF_ok (gl : Gl) : CallOk (enF gl) := enD_ok (.none _ _) (pThere_ok.or pTwice_ok) (.none _ _)
noncomputable def ck1 (gl : Gl) (c : Cn) (i : Nat) : Bool := (bif decide (((lenV (c.hv gl i) : Nat) : Int) > 1024) then false else true)
theorem ck1_tf (gl : Gl) (c : Cn) (hc : CnOk gl c) (sc : CnSm gl c) (i : Nat) (hk : i < c.hn) (h1 : (decide (((lenV (c.hv gl i) : Nat) : Int) > 1024)) = false) (W : World) (hG : GlobOk gl W) : S2.Sem (enF gl) W 144 (ckK ckP1) (ckS c [iS 3 i]) none (ckS c [iS 3 (i + 1)]) := by
 have s1 := sc.1
 have s2 := sc.2.1
 refine sem_iter (enF_ok gl) hG (p := (ckQ [3])) (fuel := 1000) [true, false] [(pre (inI ((i : Int) + 1)), true), (decide (((lenV (c.hv gl i) : Nat) : Int) > 1024), false), (pre (rowB gl (c.hv gl i) (rcE gl (c.hv gl i))), true), (pre (rowB gl c.h (hsE gl c.h)), true), (pre (decide (i < c.hn)), true), (pre (rowB gl c.h (hsE gl c.h)), true), (pre (idxB ((i : Int)) c.hn), true), (decide ((i : Int) < (c.hn : Int)), true), (pre (rowB gl c.h (hsE gl c.h)), true)] (by kernel_rfl) (by kernel_rfl) ?_
 refine qF ?_ ?_ ?_ ?_ <| qF ?_ ?_ ?_ ?_ <| qA ?_ <| qZ
 . exact ob_inI (by omega)
 . assumption
 . exact rowB_ok.mpr (by first | exact hc.hs | exact hc.rw | exact hc.rc _ (by omega) | exact hc.rf _ (by omega))
 . exact rowB_ok.mpr (by first | exact hc.hs | exact hc.rw | exact hc.rc _ (by omega) | exact hc.rf _ (by omega))
 . exact ob_lt (by omega)
 . exact rowB_ok.mpr (by first | exact hc.hs | exact hc.rw | exact hc.rc _ (by omega) | exact hc.rf _ (by omega))
 . exact ob_idx (by omega)
 . exact ob_yes (by omega)
 . exact rowB_ok.mpr (by first | exact hc.hs | exact hc.rw | exact hc.rc _ (by omega) | exact hc.rf _ (by omega))
theorem ck1_tt (gl : Gl) (c : Cn) (hc : CnOk gl c) (sc : CnSm gl c) (i : Nat) (hk : i < c.hn) (h1 : (decide (((lenV (c.hv gl i) : Nat) : Int) > 1024)) = true) (W : World) (hG : GlobOk gl W) : S2.Sem (enF gl) W 144 (ckK ckP1) (ckS c [iS 3 i]) (some none) (ckT 3) := by
 have s1 := sc.1
 have s2 := sc.2.1
 refine sem_iter (enF_ok gl) hG (p := ckZ) (fuel := 1000) [true, true] [(decide (((lenV (c.hv gl i) : Nat) : Int) > 1024), true), (pre (rowB gl (c.hv gl i) (rcE gl (c.hv gl i))), true), (pre (rowB gl c.h (hsE gl c.h)), true), (pre (decide (i < c.hn)), true), (pre (rowB gl c.h (hsE gl c.h)), true), (pre (idxB ((i : Int)) c.hn), true), (decide ((i : Int) < (c.hn : Int)), true), (pre (rowB gl c.h (hsE gl c.h)), true)] (by kernel_rfl) (by kernel_rfl) ?_
 refine qF ?_ ?_ ?_ ?_ <| qF ?_ ?_ ?_ ?_ <| qZ
 . assumption
 . exact rowB_ok.mpr (by first | exact hc.hs | exact hc.rw | exact hc.rc _ (by omega) | exact hc.rf _ (by omega))
 . exact rowB_ok.mpr (by first | exact hc.hs | exact hc.rw | exact hc.rc _ (by omega) | exact hc.rf _ (by omega))
 . exact ob_lt (by omega)
 . exact rowB_ok.mpr (by first | exact hc.hs | exact hc.rw | exact hc.rc _ (by omega) | exact hc.rf _ (by omega))
 . exact ob_idx (by omega)
 . exact ob_yes (by omega)
 . exact rowB_ok.mpr (by first | exact hc.hs | exact hc.rw | exact hc.rc _ (by omega) | exact hc.rf _ (by omega))
theorem ck1_step (gl : Gl) (c : Cn) (hc : CnOk gl c) (sc : CnSm gl c) (i : Nat) (hk : i < c.hn) (h : ck1 gl c i = true) (W : World) (hG : GlobOk gl W) : S2.Sem (enF gl) W 144 (ckK ckP1) (ckS c [iS 3 i]) none (ckS c [iS 3 (i + 1)]) := by
 cases h1 : (decide (((lenV (c.hv gl i) : Nat) : Int) > 1024))
 case' false =>
   exact ck1_tf gl c hc sc i hk h1 W hG
 case' true =>
   exfalso; unfold ck1 at h; rw [h1] at h; first | (cases h; done) | simp at h
theorem ck1_out (gl : Gl) (c : Cn) (hc : CnOk gl c) (sc : CnSm gl c) (i : Nat) (hk : i < c.hn) (h : ck1 gl c i = false) (W : World) (hG : GlobOk gl W) : S2.Sem (enF gl) W 144 (ckK ckP1) (ckS c [iS 3 i]) (some none) (ckT 3) := by
 cases h1 : (decide (((lenV (c.hv gl i) : Nat) : Int) > 1024))
 case' false =>
   exfalso; unfold ck1 at h; rw [h1] at h; first | (cases h; done) | simp at h
 case' true =>
   exact ck1_tt gl c hc sc i hk h1 W hG
theorem ck1_end (gl : Gl) (c : Cn) (hc : CnOk gl c) (sc : CnSm gl c) (W : World) (hG : GlobOk gl W) : S2.Sem (enF gl) W 144 (ckK ckP1) (ckS c [iS 3 c.hn]) (some (some 0)) (ckS c [iS 3 c.hn]) := by
 refine sem_iter (enF_ok gl) hG (p := (ckQ [3])) (fuel := 1000) [false] [(decide (((c.hn : Nat) : Int) < (c.hn : Int)), false), (pre (rowB gl c.h (hsE gl c.h)), true)] (by kernel_rfl) (by kernel_rfl) ?_
 refine qA ?_ <| qA ?_ <| qZ
 . exact ob_no (by omega)
 . exact rowB_ok.mpr (by first | exact hc.hs | exact hc.rw | exact hc.rc _ (by omega) | exact hc.rf _ (by omega))
theorem ck1_yes (gl : Gl) (c : Cn) (hc : CnOk gl c) (sc : CnSm gl c) (h : skipN (ck1 gl c) (c.hn) 0 = c.hn) (W : World) (hG : GlobOk gl W) : S2.Sem (enF gl) W 144 (.loop (ckK ckP1)) (ckS c [iS 3 0]) (some (some 0)) (ckS c [iS 3 c.hn]) :=
 sem_loop (E := enF gl) (w0 := base0 W) (nb := 0) (nl := 0) (n := 144) (c := (ckK ckP1)) (x := (some (some 0))) (s' := ckS c [iS 3 c.hn]) (fun z => ckS c [iS 3 z]) (c.hn) (by simp) (fun z hz => ck1_step gl c hc sc z hz (skipN_all (ck1 gl c) (c.hn) 0 z (by omega) (by omega)) W hG) (ck1_end gl c hc sc W hG)
theorem ck1_no (gl : Gl) (c : Cn) (hc : CnOk gl c) (sc : CnSm gl c) (h : skipN (ck1 gl c) (c.hn) 0 ≠ c.hn) (W : World) (hG : GlobOk gl W) : S2.Sem (enF gl) W 144 (.loop (ckK ckP1)) (ckS c [iS 3 0]) (some none) (ckT 3) := by
 have g4 := skipN_le (ck1 gl c) (c.hn) 0
 exact sem_loop (E := enF gl) (w0 := base0 W) (nb := 0) (nl := 0) (n := 144) (c := (ckK ckP1)) (x := some none) (s' := ckT 3) (fun z => ckS c [iS 3 z]) (skipN (ck1 gl c) (c.hn) 0) (by simp) (fun z hz => ck1_step gl c hc sc z (by omega) (skipN_all (ck1 gl c) (c.hn) 0 z (by omega) hz) W hG) (ck1_out gl c hc sc _ (by omega) (skipN_hit (by omega)) W hG)
noncomputable def ck3B (gl : Gl) (c : Cn) (i k : Nat) : Bool := (bif (rcG gl (c.hv gl i) k).sh == -1 then (bif (rcG gl (c.hv gl i) k).wt then (bif (rcG gl (c.hv gl i) k).fl then false else (bif !(rcG gl (c.hv gl i) k).sa == 0 then (bif !thZ gl c (rcG gl (c.hv gl i) k).sh (rcG gl (c.hv gl i) k).sa then false else true) else true)) else (bif !(rcG gl (c.hv gl i) k).sa == 0 then (bif !thZ gl c (rcG gl (c.hv gl i) k).sh (rcG gl (c.hv gl i) k).sa then false else true) else true)) else (bif (rcG gl (c.hv gl i) k).wt then (bif (rcG gl (c.hv gl i) k).fl then false else (bif !thZ gl c (rcG gl (c.hv gl i) k).sh (rcG gl (c.hv gl i) k).sa then false else true)) else (bif !thZ gl c (rcG gl (c.hv gl i) k).sh (rcG gl (c.hv gl i) k).sa then false else true)))
theorem ck3_tfff (gl : Gl) (c : Cn) (hc : CnOk gl c) (sc : CnSm gl c) (i : Nat) (hi : i < c.hn) (k : Nat) (hk : k < lenV (c.hv gl i)) (h1 : ((rcG gl (c.hv gl i) k).sh == -1) = false) (h2 : ((rcG gl (c.hv gl i) k).wt) = false) (h3 : (!thZ gl c (rcG gl (c.hv gl i) k).sh (rcG gl (c.hv gl i) k).sa) = false) (W : World) (hG : GlobOk gl W) : S2.Sem (enF gl) W 144 (ckK (ckI3 ++ (0 :: ckP2))) (ckS c [iS 4 i, iS 5 k]) none (ckS c [iS 4 i, iS 5 (k + 1)]) := by
 have s1 := sc.1
 have s2 := sc.2.1
 have s3 := sc.2.2.1 i hi
 refine sem_iter (enF_ok gl) hG (p := (ckQ [4, 5])) (fuel := 1000) [true, false, false, false] [(pre (inI ((k : Int) + 1)), true), (!thZ gl c (rcG gl (c.hv gl i) k).sh (rcG gl (c.hv gl i) k).sa, false), (pre (okC gl (c, (rcG gl (c.hv gl i) k).sh, (rcG gl (c.hv gl i) k).sa).fst), true), ((rcG gl (c.hv gl i) k).wt, false), ((rcG gl (c.hv gl i) k).sh == -1, false), (pre (rowB gl (c.hv gl i) (rcE gl (c.hv gl i))), true), (pre (decide (k < (lenV (c.hv gl i)))), true), (pre (rowB gl (c.hv gl i) (rcE gl (c.hv gl i))), true), (pre (idxB ((k : Int)) (lenV (c.hv gl i))), true), (pre (rowB gl c.h (hsE gl c.h)), true), (pre (decide (i < c.hn)), true), (pre (rowB gl c.h (hsE gl c.h)), true), (pre (idxB ((i : Int)) c.hn), true), (decide ((k : Int) < ((lenV (c.hv gl i) : Nat) : Int)), true), (pre (rowB gl (c.hv gl i) (rcE gl (c.hv gl i))), true), (pre (rowB gl c.h (hsE gl c.h)), true), (pre (decide (i < c.hn)), true), (pre (rowB gl c.h (hsE gl c.h)), true), (pre (idxB ((i : Int)) c.hn), true)] (by kernel_rfl) (by kernel_rfl) ?_
 refine qF ?_ ?_ ?_ ?_ <| qF ?_ ?_ ?_ ?_ <| qF ?_ ?_ ?_ ?_ <| qF ?_ ?_ ?_ ?_ <| qA ?_ <| qA ?_ <| qA ?_ <| qZ
 . exact ob_inI (by omega)
 . assumption
 . exact propB_ok.mpr hc
 . assumption
 . assumption
 . exact rowB_ok.mpr (by first | exact hc.hs | exact hc.rw | exact hc.rc _ (by omega) | exact hc.rf _ (by omega))
 . exact ob_lt (by omega)
 . exact rowB_ok.mpr (by first | exact hc.hs | exact hc.rw | exact hc.rc _ (by omega) | exact hc.rf _ (by omega))
 . exact ob_idx (by omega)
 . exact rowB_ok.mpr (by first | exact hc.hs | exact hc.rw | exact hc.rc _ (by omega) | exact hc.rf _ (by omega))
 . exact ob_lt (by omega)
 . exact rowB_ok.mpr (by first | exact hc.hs | exact hc.rw | exact hc.rc _ (by omega) | exact hc.rf _ (by omega))
 . exact ob_idx (by omega)
 . exact ob_yes (by omega)
 . exact rowB_ok.mpr (by first | exact hc.hs | exact hc.rw | exact hc.rc _ (by omega) | exact hc.rf _ (by omega))
 . exact rowB_ok.mpr (by first | exact hc.hs | exact hc.rw | exact hc.rc _ (by omega) | exact hc.rf _ (by omega))
 . exact ob_lt (by omega)
 . exact rowB_ok.mpr (by first | exact hc.hs | exact hc.rw | exact hc.rc _ (by omega) | exact hc.rf _ (by omega))
 . exact ob_idx (by omega)
theorem ck3_tfft (gl : Gl) (c : Cn) (hc : CnOk gl c) (sc : CnSm gl c) (i : Nat) (hi : i < c.hn) (k : Nat) (hk : k < lenV (c.hv gl i)) (h1 : ((rcG gl (c.hv gl i) k).sh == -1) = false) (h2 : ((rcG gl (c.hv gl i) k).wt) = false) (h3 : (!thZ gl c (rcG gl (c.hv gl i) k).sh (rcG gl (c.hv gl i) k).sa) = true) (W : World) (hG : GlobOk gl W) : S2.Sem (enF gl) W 144 (ckK (ckI3 ++ (0 :: ckP2))) (ckS c [iS 4 i, iS 5 k]) (some none) (ckT 1) := by
 have s1 := sc.1
 have s2 := sc.2.1
 have s3 := sc.2.2.1 i hi
 refine sem_iter (enF_ok gl) hG (p := ckZ) (fuel := 1000) [true, false, false, true] [(!thZ gl c (rcG gl (c.hv gl i) k).sh (rcG gl (c.hv gl i) k).sa, true), (pre (okC gl (c, (rcG gl (c.hv gl i) k).sh, (rcG gl (c.hv gl i) k).sa).fst), true), ((rcG gl (c.hv gl i) k).wt, false), ((rcG gl (c.hv gl i) k).sh == -1, false), (pre (rowB gl (c.hv gl i) (rcE gl (c.hv gl i))), true), (pre (decide (k < (lenV (c.hv gl i)))), true), (pre (rowB gl (c.hv gl i) (rcE gl (c.hv gl i))), true), (pre (idxB ((k : Int)) (lenV (c.hv gl i))), true), (pre (rowB gl c.h (hsE gl c.h)), true), (pre (decide (i < c.hn)), true), (pre (rowB gl c.h (hsE gl c.h)), true), (pre (idxB ((i : Int)) c.hn), true), (decide ((k : Int) < ((lenV (c.hv gl i) : Nat) : Int)), true), (pre (rowB gl (c.hv gl i) (rcE gl (c.hv gl i))), true), (pre (rowB gl c.h (hsE gl c.h)), true), (pre (decide (i < c.hn)), true), (pre (rowB gl c.h (hsE gl c.h)), true), (pre (idxB ((i : Int)) c.hn), true)] (by kernel_rfl) (by kernel_rfl) ?_
 refine qF ?_ ?_ ?_ ?_ <| qF ?_ ?_ ?_ ?_ <| qF ?_ ?_ ?_ ?_ <| qF ?_ ?_ ?_ ?_ <| qA ?_ <| qA ?_ <| qZ
 . assumption
 . exact propB_ok.mpr hc
 . assumption
 . assumption
 . exact rowB_ok.mpr (by first | exact hc.hs | exact hc.rw | exact hc.rc _ (by omega) | exact hc.rf _ (by omega))
 . exact ob_lt (by omega)
 . exact rowB_ok.mpr (by first | exact hc.hs | exact hc.rw | exact hc.rc _ (by omega) | exact hc.rf _ (by omega))
 . exact ob_idx (by omega)
 . exact rowB_ok.mpr (by first | exact hc.hs | exact hc.rw | exact hc.rc _ (by omega) | exact hc.rf _ (by omega))
 . exact ob_lt (by omega)
 . exact rowB_ok.mpr (by first | exact hc.hs | exact hc.rw | exact hc.rc _ (by omega) | exact hc.rf _ (by omega))
 . exact ob_idx (by omega)
 . exact ob_yes (by omega)
 . exact rowB_ok.mpr (by first | exact hc.hs | exact hc.rw | exact hc.rc _ (by omega) | exact hc.rf _ (by omega))
 . exact rowB_ok.mpr (by first | exact hc.hs | exact hc.rw | exact hc.rc _ (by omega) | exact hc.rf _ (by omega))
 . exact ob_lt (by omega)
 . exact rowB_ok.mpr (by first | exact hc.hs | exact hc.rw | exact hc.rc _ (by omega) | exact hc.rf _ (by omega))
 . exact ob_idx (by omega)
theorem ck3_tftff (gl : Gl) (c : Cn) (hc : CnOk gl c) (sc : CnSm gl c) (i : Nat) (hi : i < c.hn) (k : Nat) (hk : k < lenV (c.hv gl i)) (h1 : ((rcG gl (c.hv gl i) k).sh == -1) = false) (h2 : ((rcG gl (c.hv gl i) k).wt) = true) (h3 : ((rcG gl (c.hv gl i) k).fl) = false) (h4 : (!thZ gl c (rcG gl (c.hv gl i) k).sh (rcG gl (c.hv gl i) k).sa) = false) (W : World) (hG : GlobOk gl W) : S2.Sem (enF gl) W 144 (ckK (ckI3 ++ (0 :: ckP2))) (ckS c [iS 4 i, iS 5 k]) none (ckS c [iS 4 i, iS 5 (k + 1)]) := by
 have s1 := sc.1
 have s2 := sc.2.1
 have s3 := sc.2.2.1 i hi
 refine sem_iter (enF_ok gl) hG (p := (ckQ [4, 5])) (fuel := 1000) [true, false, true, false, false] [(pre (inI ((k : Int) + 1)), true), (!thZ gl c (rcG gl (c.hv gl i) k).sh (rcG gl (c.hv gl i) k).sa, false), (pre (okC gl (c, (rcG gl (c.hv gl i) k).sh, (rcG gl (c.hv gl i) k).sa).fst), true), ((rcG gl (c.hv gl i) k).fl, false), ((rcG gl (c.hv gl i) k).wt, true), ((rcG gl (c.hv gl i) k).sh == -1, false), (pre (rowB gl (c.hv gl i) (rcE gl (c.hv gl i))), true), (pre (decide (k < (lenV (c.hv gl i)))), true), (pre (rowB gl (c.hv gl i) (rcE gl (c.hv gl i))), true), (pre (idxB ((k : Int)) (lenV (c.hv gl i))), true), (pre (rowB gl c.h (hsE gl c.h)), true), (pre (decide (i < c.hn)), true), (pre (rowB gl c.h (hsE gl c.h)), true), (pre (idxB ((i : Int)) c.hn), true), (decide ((k : Int) < ((lenV (c.hv gl i) : Nat) : Int)), true), (pre (rowB gl (c.hv gl i) (rcE gl (c.hv gl i))), true), (pre (rowB gl c.h (hsE gl c.h)), true), (pre (decide (i < c.hn)), true), (pre (rowB gl c.h (hsE gl c.h)), true), (pre (idxB ((i : Int)) c.hn), true)] (by kernel_rfl) (by kernel_rfl) ?_
 refine qF ?_ ?_ ?_ ?_ <| qF ?_ ?_ ?_ ?_ <| qF ?_ ?_ ?_ ?_ <| qF ?_ ?_ ?_ ?_ <| qF ?_ ?_ ?_ ?_ <| qZ
 . exact ob_inI (by omega)
 . assumption
 . exact propB_ok.mpr hc
 . assumption
 . assumption
 . assumption
 . exact rowB_ok.mpr (by first | exact hc.hs | exact hc.rw | exact hc.rc _ (by omega) | exact hc.rf _ (by omega))
 . exact ob_lt (by omega)
 . exact rowB_ok.mpr (by first | exact hc.hs | exact hc.rw | exact hc.rc _ (by omega) | exact hc.rf _ (by omega))
 . exact ob_idx (by omega)
 . exact rowB_ok.mpr (by first | exact hc.hs | exact hc.rw | exact hc.rc _ (by omega) | exact hc.rf _ (by omega))
 . exact ob_lt (by omega)
 . exact rowB_ok.mpr (by first | exact hc.hs | exact hc.rw | exact hc.rc _ (by omega) | exact hc.rf _ (by omega))
 . exact ob_idx (by omega)
 . exact ob_yes (by omega)
 . exact rowB_ok.mpr (by first | exact hc.hs | exact hc.rw | exact hc.rc _ (by omega) | exact hc.rf _ (by omega))
 . exact rowB_ok.mpr (by first | exact hc.hs | exact hc.rw | exact hc.rc _ (by omega) | exact hc.rf _ (by omega))
 . exact ob_lt (by omega)
 . exact rowB_ok.mpr (by first | exact hc.hs | exact hc.rw | exact hc.rc _ (by omega) | exact hc.rf _ (by omega))
 . exact ob_idx (by omega)
theorem ck3_tftft (gl : Gl) (c : Cn) (hc : CnOk gl c) (sc : CnSm gl c) (i : Nat) (hi : i < c.hn) (k : Nat) (hk : k < lenV (c.hv gl i)) (h1 : ((rcG gl (c.hv gl i) k).sh == -1) = false) (h2 : ((rcG gl (c.hv gl i) k).wt) = true) (h3 : ((rcG gl (c.hv gl i) k).fl) = false) (h4 : (!thZ gl c (rcG gl (c.hv gl i) k).sh (rcG gl (c.hv gl i) k).sa) = true) (W : World) (hG : GlobOk gl W) : S2.Sem (enF gl) W 144 (ckK (ckI3 ++ (0 :: ckP2))) (ckS c [iS 4 i, iS 5 k]) (some none) (ckT 1) := by
 have s1 := sc.1
 have s2 := sc.2.1
 have s3 := sc.2.2.1 i hi
 refine sem_iter (enF_ok gl) hG (p := ckZ) (fuel := 1000) [true, false, true, false, true] [(!thZ gl c (rcG gl (c.hv gl i) k).sh (rcG gl (c.hv gl i) k).sa, true), (pre (okC gl (c, (rcG gl (c.hv gl i) k).sh, (rcG gl (c.hv gl i) k).sa).fst), true), ((rcG gl (c.hv gl i) k).fl, false), ((rcG gl (c.hv gl i) k).wt, true), ((rcG gl (c.hv gl i) k).sh == -1, false), (pre (rowB gl (c.hv gl i) (rcE gl (c.hv gl i))), true), (pre (decide (k < (lenV (c.hv gl i)))), true), (pre (rowB gl (c.hv gl i) (rcE gl (c.hv gl i))), true), (pre (idxB ((k : Int)) (lenV (c.hv gl i))), true), (pre (rowB gl c.h (hsE gl c.h)), true), (pre (decide (i < c.hn)), true), (pre (rowB gl c.h (hsE gl c.h)), true), (pre (idxB ((i : Int)) c.hn), true), (decide ((k : Int) < ((lenV (c.hv gl i) : Nat) : Int)), true), (pre (rowB gl (c.hv gl i) (rcE gl (c.hv gl i))), true), (pre (rowB gl c.h (hsE gl c.h)), true), (pre (decide (i < c.hn)), true), (pre (rowB gl c.h (hsE gl c.h)), true), (pre (idxB ((i : Int)) c.hn), true)] (by kernel_rfl) (by kernel_rfl) ?_
 refine qF ?_ ?_ ?_ ?_ <| qF ?_ ?_ ?_ ?_ <| qF ?_ ?_ ?_ ?_ <| qF ?_ ?_ ?_ ?_ <| qA ?_ <| qA ?_ <| qA ?_ <| qZ
 . assumption
 . exact propB_ok.mpr hc
 . assumption
 . assumption
 . assumption
 . exact rowB_ok.mpr (by first | exact hc.hs | exact hc.rw | exact hc.rc _ (by omega) | exact hc.rf _ (by omega))
 . exact ob_lt (by omega)
 . exact rowB_ok.mpr (by first | exact hc.hs | exact hc.rw | exact hc.rc _ (by omega) | exact hc.rf _ (by omega))
 . exact ob_idx (by omega)
 . exact rowB_ok.mpr (by first | exact hc.hs | exact hc.rw | exact hc.rc _ (by omega) | exact hc.rf _ (by omega))
 . exact ob_lt (by omega)
 . exact rowB_ok.mpr (by first | exact hc.hs | exact hc.rw | exact hc.rc _ (by omega) | exact hc.rf _ (by omega))
 . exact ob_idx (by omega)
 . exact ob_yes (by omega)
 . exact rowB_ok.mpr (by first | exact hc.hs | exact hc.rw | exact hc.rc _ (by omega) | exact hc.rf _ (by omega))
 . exact rowB_ok.mpr (by first | exact hc.hs | exact hc.rw | exact hc.rc _ (by omega) | exact hc.rf _ (by omega))
 . exact ob_lt (by omega)
 . exact rowB_ok.mpr (by first | exact hc.hs | exact hc.rw | exact hc.rc _ (by omega) | exact hc.rf _ (by omega))
 . exact ob_idx (by omega)
theorem ck3_tftt (gl : Gl) (c : Cn) (hc : CnOk gl c) (sc : CnSm gl c) (i : Nat) (hi : i < c.hn) (k : Nat) (hk : k < lenV (c.hv gl i)) (h1 : ((rcG gl (c.hv gl i) k).sh == -1) = false) (h2 : ((rcG gl (c.hv gl i) k).wt) = true) (h3 : ((rcG gl (c.hv gl i) k).fl) = true) (W : World) (hG : GlobOk gl W) : S2.Sem (enF gl) W 144 (ckK (ckI3 ++ (0 :: ckP2))) (ckS c [iS 4 i, iS 5 k]) (some none) (ckT 1) := by
 have s1 := sc.1
 have s2 := sc.2.1
 have s3 := sc.2.2.1 i hi
 refine sem_iter (enF_ok gl) hG (p := ckZ) (fuel := 1000) [true, false, true, true] [((rcG gl (c.hv gl i) k).fl, true), ((rcG gl (c.hv gl i) k).wt, true), ((rcG gl (c.hv gl i) k).sh == -1, false), (pre (rowB gl (c.hv gl i) (rcE gl (c.hv gl i))), true), (pre (decide (k < (lenV (c.hv gl i)))), true), (pre (rowB gl (c.hv gl i) (rcE gl (c.hv gl i))), true), (pre (idxB ((k : Int)) (lenV (c.hv gl i))), true), (pre (rowB gl c.h (hsE gl c.h)), true), (pre (decide (i < c.hn)), true), (pre (rowB gl c.h (hsE gl c.h)), true), (pre (idxB ((i : Int)) c.hn), true), (decide ((k : Int) < ((lenV (c.hv gl i) : Nat) : Int)), true), (pre (rowB gl (c.hv gl i) (rcE gl (c.hv gl i))), true), (pre (rowB gl c.h (hsE gl c.h)), true), (pre (decide (i < c.hn)), true), (pre (rowB gl c.h (hsE gl c.h)), true), (pre (idxB ((i : Int)) c.hn), true)] (by kernel_rfl) (by kernel_rfl) ?_
 refine qF ?_ ?_ ?_ ?_ <| qF ?_ ?_ ?_ ?_ <| qF ?_ ?_ ?_ ?_ <| qF ?_ ?_ ?_ ?_ <| qA ?_ <| qZ
 . assumption
 . assumption
 . assumption
 . exact rowB_ok.mpr (by first | exact hc.hs | exact hc.rw | exact hc.rc _ (by omega) | exact hc.rf _ (by omega))
 . exact ob_lt (by omega)
 . exact rowB_ok.mpr (by first | exact hc.hs | exact hc.rw | exact hc.rc _ (by omega) | exact hc.rf _ (by omega))
 . exact ob_idx (by omega)
 . exact rowB_ok.mpr (by first | exact hc.hs | exact hc.rw | exact hc.rc _ (by omega) | exact hc.rf _ (by omega))
 . exact ob_lt (by omega)
 . exact rowB_ok.mpr (by first | exact hc.hs | exact hc.rw | exact hc.rc _ (by omega) | exact hc.rf _ (by omega))
 . exact ob_idx (by omega)
 . exact ob_yes (by omega)
 . exact rowB_ok.mpr (by first | exact hc.hs | exact hc.rw | exact hc.rc _ (by omega) | exact hc.rf _ (by omega))
 . exact rowB_ok.mpr (by first | exact hc.hs | exact hc.rw | exact hc.rc _ (by omega) | exact hc.rf _ (by omega))
 . exact ob_lt (by omega)
 . exact rowB_ok.mpr (by first | exact hc.hs | exact hc.rw | exact hc.rc _ (by omega) | exact hc.rf _ (by omega))
 . exact ob_idx (by omega)
theorem ck3_ttff (gl : Gl) (c : Cn) (hc : CnOk gl c) (sc : CnSm gl c) (i : Nat) (hi : i < c.hn) (k : Nat) (hk : k < lenV (c.hv gl i)) (h1 : ((rcG gl (c.hv gl i) k).sh == -1) = true) (h2 : ((rcG gl (c.hv gl i) k).wt) = false) (h3 : (!(rcG gl (c.hv gl i) k).sa == 0) = false) (W : World) (hG : GlobOk gl W) : S2.Sem (enF gl) W 144 (ckK (ckI3 ++ (0 :: ckP2))) (ckS c [iS 4 i, iS 5 k]) none (ckS c [iS 4 i, iS 5 (k + 1)]) := by
 have s1 := sc.1
 have s2 := sc.2.1
 have s3 := sc.2.2.1 i hi
 refine sem_iter (enF_ok gl) hG (p := (ckQ [4, 5])) (fuel := 1000) [true, true, false, false] [(pre (inI ((k : Int) + 1)), true), (!(rcG gl (c.hv gl i) k).sa == 0, false), ((rcG gl (c.hv gl i) k).wt, false), ((rcG gl (c.hv gl i) k).sh == -1, true), (pre (rowB gl (c.hv gl i) (rcE gl (c.hv gl i))), true), (pre (decide (k < (lenV (c.hv gl i)))), true), (pre (rowB gl (c.hv gl i) (rcE gl (c.hv gl i))), true), (pre (idxB ((k : Int)) (lenV (c.hv gl i))), true), (pre (rowB gl c.h (hsE gl c.h)), true), (pre (decide (i < c.hn)), true), (pre (rowB gl c.h (hsE gl c.h)), true), (pre (idxB ((i : Int)) c.hn), true), (decide ((k : Int) < ((lenV (c.hv gl i) : Nat) : Int)), true), (pre (rowB gl (c.hv gl i) (rcE gl (c.hv gl i))), true), (pre (rowB gl c.h (hsE gl c.h)), true), (pre (decide (i < c.hn)), true), (pre (rowB gl c.h (hsE gl c.h)), true), (pre (idxB ((i : Int)) c.hn), true)] (by kernel_rfl) (by kernel_rfl) ?_
 refine qF ?_ ?_ ?_ ?_ <| qF ?_ ?_ ?_ ?_ <| qF ?_ ?_ ?_ ?_ <| qF ?_ ?_ ?_ ?_ <| qA ?_ <| qA ?_ <| qZ
 . exact ob_inI (by omega)
 . assumption
 . assumption
 . assumption
 . exact rowB_ok.mpr (by first | exact hc.hs | exact hc.rw | exact hc.rc _ (by omega) | exact hc.rf _ (by omega))
 . exact ob_lt (by omega)
 . exact rowB_ok.mpr (by first | exact hc.hs | exact hc.rw | exact hc.rc _ (by omega) | exact hc.rf _ (by omega))
 . exact ob_idx (by omega)
 . exact rowB_ok.mpr (by first | exact hc.hs | exact hc.rw | exact hc.rc _ (by omega) | exact hc.rf _ (by omega))
 . exact ob_lt (by omega)
 . exact rowB_ok.mpr (by first | exact hc.hs | exact hc.rw | exact hc.rc _ (by omega) | exact hc.rf _ (by omega))
 . exact ob_idx (by omega)
 . exact ob_yes (by omega)
 . exact rowB_ok.mpr (by first | exact hc.hs | exact hc.rw | exact hc.rc _ (by omega) | exact hc.rf _ (by omega))
 . exact rowB_ok.mpr (by first | exact hc.hs | exact hc.rw | exact hc.rc _ (by omega) | exact hc.rf _ (by omega))
 . exact ob_lt (by omega)
 . exact rowB_ok.mpr (by first | exact hc.hs | exact hc.rw | exact hc.rc _ (by omega) | exact hc.rf _ (by omega))
 . exact ob_idx (by omega)
theorem ck3_ttftf (gl : Gl) (c : Cn) (hc : CnOk gl c) (sc : CnSm gl c) (i : Nat) (hi : i < c.hn) (k : Nat) (hk : k < lenV (c.hv gl i)) (h1 : ((rcG gl (c.hv gl i) k).sh == -1) = true) (h2 : ((rcG gl (c.hv gl i) k).wt) = false) (h3 : (!(rcG gl (c.hv gl i) k).sa == 0) = true) (h4 : (!thZ gl c (rcG gl (c.hv gl i) k).sh (rcG gl (c.hv gl i) k).sa) = false) (W : World) (hG : GlobOk gl W) : S2.Sem (enF gl) W 144 (ckK (ckI3 ++ (0 :: ckP2))) (ckS c [iS 4 i, iS 5 k]) none (ckS c [iS 4 i, iS 5 (k + 1)]) := by
 have s1 := sc.1
 have s2 := sc.2.1
 have s3 := sc.2.2.1 i hi
 refine sem_iter (enF_ok gl) hG (p := (ckQ [4, 5])) (fuel := 1000) [true, true, false, true, false] [(pre (inI ((k : Int) + 1)), true), (!thZ gl c (rcG gl (c.hv gl i) k).sh (rcG gl (c.hv gl i) k).sa, false), (pre (okC gl (c, (rcG gl (c.hv gl i) k).sh, (rcG gl (c.hv gl i) k).sa).fst), true), (!(rcG gl (c.hv gl i) k).sa == 0, true), ((rcG gl (c.hv gl i) k).wt, false), ((rcG gl (c.hv gl i) k).sh == -1, true), (pre (rowB gl (c.hv gl i) (rcE gl (c.hv gl i))), true), (pre (decide (k < (lenV (c.hv gl i)))), true), (pre (rowB gl (c.hv gl i) (rcE gl (c.hv gl i))), true), (pre (idxB ((k : Int)) (lenV (c.hv gl i))), true), (pre (rowB gl c.h (hsE gl c.h)), true), (pre (decide (i < c.hn)), true), (pre (rowB gl c.h (hsE gl c.h)), true), (pre (idxB ((i : Int)) c.hn), true), (decide ((k : Int) < ((lenV (c.hv gl i) : Nat) : Int)), true), (pre (rowB gl (c.hv gl i) (rcE gl (c.hv gl i))), true), (pre (rowB gl c.h (hsE gl c.h)), true), (pre (decide (i < c.hn)), true), (pre (rowB gl c.h (hsE gl c.h)), true), (pre (idxB ((i : Int)) c.hn), true)] (by kernel_rfl) (by kernel_rfl) ?_
 refine qF ?_ ?_ ?_ ?_ <| qF ?_ ?_ ?_ ?_ <| qF ?_ ?_ ?_ ?_ <| qF ?_ ?_ ?_ ?_ <| qF ?_ ?_ ?_ ?_ <| qZ
 . exact ob_inI (by omega)
 . assumption
 . exact propB_ok.mpr hc
 . assumption
 . assumption
 . assumption
 . exact rowB_ok.mpr (by first | exact hc.hs | exact hc.rw | exact hc.rc _ (by omega) | exact hc.rf _ (by omega))
 . exact ob_lt (by omega)
 . exact rowB_ok.mpr (by first | exact hc.hs | exact hc.rw | exact hc.rc _ (by omega) | exact hc.rf _ (by omega))
 . exact ob_idx (by omega)
 . exact rowB_ok.mpr (by first | exact hc.hs | exact hc.rw | exact hc.rc _ (by omega) | exact hc.rf _ (by omega))
 . exact ob_lt (by omega)
 . exact rowB_ok.mpr (by first | exact hc.hs | exact hc.rw | exact hc.rc _ (by omega) | exact hc.rf _ (by omega))
 . exact ob_idx (by omega)
 . exact ob_yes (by omega)
 . exact rowB_ok.mpr (by first | exact hc.hs | exact hc.rw | exact hc.rc _ (by omega) | exact hc.rf _ (by omega))
 . exact rowB_ok.mpr (by first | exact hc.hs | exact hc.rw | exact hc.rc _ (by omega) | exact hc.rf _ (by omega))
 . exact ob_lt (by omega)
 . exact rowB_ok.mpr (by first | exact hc.hs | exact hc.rw | exact hc.rc _ (by omega) | exact hc.rf _ (by omega))
 . exact ob_idx (by omega)
theorem ck3_ttftt (gl : Gl) (c : Cn) (hc : CnOk gl c) (sc : CnSm gl c) (i : Nat) (hi : i < c.hn) (k : Nat) (hk : k < lenV (c.hv gl i)) (h1 : ((rcG gl (c.hv gl i) k).sh == -1) = true) (h2 : ((rcG gl (c.hv gl i) k).wt) = false) (h3 : (!(rcG gl (c.hv gl i) k).sa == 0) = true) (h4 : (!thZ gl c (rcG gl (c.hv gl i) k).sh (rcG gl (c.hv gl i) k).sa) = true) (W : World) (hG : GlobOk gl W) : S2.Sem (enF gl) W 144 (ckK (ckI3 ++ (0 :: ckP2))) (ckS c [iS 4 i, iS 5 k]) (some none) (ckT 1) := by
 have s1 := sc.1
 have s2 := sc.2.1
 have s3 := sc.2.2.1 i hi
 refine sem_iter (enF_ok gl) hG (p := ckZ) (fuel := 1000) [true, true, false, true, true] [(!thZ gl c (rcG gl (c.hv gl i) k).sh (rcG gl (c.hv gl i) k).sa, true), (pre (okC gl (c, (rcG gl (c.hv gl i) k).sh, (rcG gl (c.hv gl i) k).sa).fst), true), (!(rcG gl (c.hv gl i) k).sa == 0, true), ((rcG gl (c.hv gl i) k).wt, false), ((rcG gl (c.hv gl i) k).sh == -1, true), (pre (rowB gl (c.hv gl i) (rcE gl (c.hv gl i))), true), (pre (decide (k < (lenV (c.hv gl i)))), true), (pre (rowB gl (c.hv gl i) (rcE gl (c.hv gl i))), true), (pre (idxB ((k : Int)) (lenV (c.hv gl i))), true), (pre (rowB gl c.h (hsE gl c.h)), true), (pre (decide (i < c.hn)), true), (pre (rowB gl c.h (hsE gl c.h)), true), (pre (idxB ((i : Int)) c.hn), true), (decide ((k : Int) < ((lenV (c.hv gl i) : Nat) : Int)), true), (pre (rowB gl (c.hv gl i) (rcE gl (c.hv gl i))), true), (pre (rowB gl c.h (hsE gl c.h)), true), (pre (decide (i < c.hn)), true), (pre (rowB gl c.h (hsE gl c.h)), true), (pre (idxB ((i : Int)) c.hn), true)] (by kernel_rfl) (by kernel_rfl) ?_
 refine qF ?_ ?_ ?_ ?_ <| qF ?_ ?_ ?_ ?_ <| qF ?_ ?_ ?_ ?_ <| qF ?_ ?_ ?_ ?_ <| qA ?_ <| qA ?_ <| qA ?_ <| qZ
 . assumption
 . exact propB_ok.mpr hc
 . assumption
 . assumption
 . assumption
 . exact rowB_ok.mpr (by first | exact hc.hs | exact hc.rw | exact hc.rc _ (by omega) | exact hc.rf _ (by omega))
 . exact ob_lt (by omega)
 . exact rowB_ok.mpr (by first | exact hc.hs | exact hc.rw | exact hc.rc _ (by omega) | exact hc.rf _ (by omega))
 . exact ob_idx (by omega)
 . exact rowB_ok.mpr (by first | exact hc.hs | exact hc.rw | exact hc.rc _ (by omega) | exact hc.rf _ (by omega))
 . exact ob_lt (by omega)
 . exact rowB_ok.mpr (by first | exact hc.hs | exact hc.rw | exact hc.rc _ (by omega) | exact hc.rf _ (by omega))
 . exact ob_idx (by omega)
 . exact ob_yes (by omega)
 . exact rowB_ok.mpr (by first | exact hc.hs | exact hc.rw | exact hc.rc _ (by omega) | exact hc.rf _ (by omega))
 . exact rowB_ok.mpr (by first | exact hc.hs | exact hc.rw | exact hc.rc _ (by omega) | exact hc.rf _ (by omega))
 . exact ob_lt (by omega)
 . exact rowB_ok.mpr (by first | exact hc.hs | exact hc.rw | exact hc.rc _ (by omega) | exact hc.rf _ (by omega))
 . exact ob_idx (by omega)
theorem ck3_tttff (gl : Gl) (c : Cn) (hc : CnOk gl c) (sc : CnSm gl c) (i : Nat) (hi : i < c.hn) (k : Nat) (hk : k < lenV (c.hv gl i)) (h1 : ((rcG gl (c.hv gl i) k).sh == -1) = true) (h2 : ((rcG gl (c.hv gl i) k).wt) = true) (h3 : ((rcG gl (c.hv gl i) k).fl) = false) (h4 : (!(rcG gl (c.hv gl i) k).sa == 0) = false) (W : World) (hG : GlobOk gl W) : S2.Sem (enF gl) W 144 (ckK (ckI3 ++ (0 :: ckP2))) (ckS c [iS 4 i, iS 5 k]) none (ckS c [iS 4 i, iS 5 (k + 1)]) := by
 have s1 := sc.1
 have s2 := sc.2.1
 have s3 := sc.2.2.1 i hi
 refine sem_iter (enF_ok gl) hG (p := (ckQ [4, 5])) (fuel := 1000) [true, true, true, false, false] [(pre (inI ((k : Int) + 1)), true), (!(rcG gl (c.hv gl i) k).sa == 0, false), ((rcG gl (c.hv gl i) k).fl, false), ((rcG gl (c.hv gl i) k).wt, true), ((rcG gl (c.hv gl i) k).sh == -1, true), (pre (rowB gl (c.hv gl i) (rcE gl (c.hv gl i))), true), (pre (decide (k < (lenV (c.hv gl i)))), true), (pre (rowB gl (c.hv gl i) (rcE gl (c.hv gl i))), true), (pre (idxB ((k : Int)) (lenV (c.hv gl i))), true), (pre (rowB gl c.h (hsE gl c.h)), true), (pre (decide (i < c.hn)), true), (pre (rowB gl c.h (hsE gl c.h)), true), (pre (idxB ((i : Int)) c.hn), true), (decide ((k : Int) < ((lenV (c.hv gl i) : Nat) : Int)), true), (pre (rowB gl (c.hv gl i) (rcE gl (c.hv gl i))), true), (pre (rowB gl c.h (hsE gl c.h)), true), (pre (decide (i < c.hn)), true), (pre (rowB gl c.h (hsE gl c.h)), true), (pre (idxB ((i : Int)) c.hn), true)] (by kernel_rfl) (by kernel_rfl) ?_
 refine qF ?_ ?_ ?_ ?_ <| qF ?_ ?_ ?_ ?_ <| qF ?_ ?_ ?_ ?_ <| qF ?_ ?_ ?_ ?_ <| qA ?_ <| qA ?_ <| qA ?_ <| qZ
 . exact ob_inI (by omega)
 . assumption
 . assumption
 . assumption
 . assumption
 . exact rowB_ok.mpr (by first | exact hc.hs | exact hc.rw | exact hc.rc _ (by omega) | exact hc.rf _ (by omega))
 . exact ob_lt (by omega)
 . exact rowB_ok.mpr (by first | exact hc.hs | exact hc.rw | exact hc.rc _ (by omega) | exact hc.rf _ (by omega))
 . exact ob_idx (by omega)
 . exact rowB_ok.mpr (by first | exact hc.hs | exact hc.rw | exact hc.rc _ (by omega) | exact hc.rf _ (by omega))
 . exact ob_lt (by omega)
 . exact rowB_ok.mpr (by first | exact hc.hs | exact hc.rw | exact hc.rc _ (by omega) | exact hc.rf _ (by omega))
 . exact ob_idx (by omega)
 . exact ob_yes (by omega)
 . exact rowB_ok.mpr (by first | exact hc.hs | exact hc.rw | exact hc.rc _ (by omega) | exact hc.rf _ (by omega))
 . exact rowB_ok.mpr (by first | exact hc.hs | exact hc.rw | exact hc.rc _ (by omega) | exact hc.rf _ (by omega))
 . exact ob_lt (by omega)
 . exact rowB_ok.mpr (by first | exact hc.hs | exact hc.rw | exact hc.rc _ (by omega) | exact hc.rf _ (by omega))
 . exact ob_idx (by omega)
theorem ck3_tttftf (gl : Gl) (c : Cn) (hc : CnOk gl c) (sc : CnSm gl c) (i : Nat) (hi : i < c.hn) (k : Nat) (hk : k < lenV (c.hv gl i)) (h1 : ((rcG gl (c.hv gl i) k).sh == -1) = true) (h2 : ((rcG gl (c.hv gl i) k).wt) = true) (h3 : ((rcG gl (c.hv gl i) k).fl) = false) (h4 : (!(rcG gl (c.hv gl i) k).sa == 0) = true) (h5 : (!thZ gl c (rcG gl (c.hv gl i) k).sh (rcG gl (c.hv gl i) k).sa) = false) (W : World) (hG : GlobOk gl W) : S2.Sem (enF gl) W 144 (ckK (ckI3 ++ (0 :: ckP2))) (ckS c [iS 4 i, iS 5 k]) none (ckS c [iS 4 i, iS 5 (k + 1)]) := by
 have s1 := sc.1
 have s2 := sc.2.1
 have s3 := sc.2.2.1 i hi
 refine sem_iter (enF_ok gl) hG (p := (ckQ [4, 5])) (fuel := 1000) [true, true, true, false, true, false] [(pre (inI ((k : Int) + 1)), true), (!thZ gl c (rcG gl (c.hv gl i) k).sh (rcG gl (c.hv gl i) k).sa, false), (pre (okC gl (c, (rcG gl (c.hv gl i) k).sh, (rcG gl (c.hv gl i) k).sa).fst), true), (!(rcG gl (c.hv gl i) k).sa == 0, true), ((rcG gl (c.hv gl i) k).fl, false), ((rcG gl (c.hv gl i) k).wt, true), ((rcG gl (c.hv gl i) k).sh == -1, true), (pre (rowB gl (c.hv gl i) (rcE gl (c.hv gl i))), true), (pre (decide (k < (lenV (c.hv gl i)))), true), (pre (rowB gl (c.hv gl i) (rcE gl (c.hv gl i))), true), (pre (idxB ((k : Int)) (lenV (c.hv gl i))), true), (pre (rowB gl c.h (hsE gl c.h)), true), (pre (decide (i < c.hn)), true), (pre (rowB gl c.h (hsE gl c.h)), true), (pre (idxB ((i : Int)) c.hn), true), (decide ((k : Int) < ((lenV (c.hv gl i) : Nat) : Int)), true), (pre (rowB gl (c.hv gl i) (rcE gl (c.hv gl i))), true), (pre (rowB gl c.h (hsE gl c.h)), true), (pre (decide (i < c.hn)), true), (pre (rowB gl c.h (hsE gl c.h)), true), (pre (idxB ((i : Int)) c.hn), true)] (by kernel_rfl) (by kernel_rfl) ?_
 refine qF ?_ ?_ ?_ ?_ <| qF ?_ ?_ ?_ ?_ <| qF ?_ ?_ ?_ ?_ <| qF ?_ ?_ ?_ ?_ <| qF ?_ ?_ ?_ ?_ <| qA ?_ <| qZ
 . exact ob_inI (by omega)
 . assumption
 . exact propB_ok.mpr hc
 . assumption
 . assumption
 . assumption
 . assumption
 . exact rowB_ok.mpr (by first | exact hc.hs | exact hc.rw | exact hc.rc _ (by omega) | exact hc.rf _ (by omega))
 . exact ob_lt (by omega)
 . exact rowB_ok.mpr (by first | exact hc.hs | exact hc.rw | exact hc.rc _ (by omega) | exact hc.rf _ (by omega))
 . exact ob_idx (by omega)
 . exact rowB_ok.mpr (by first | exact hc.hs | exact hc.rw | exact hc.rc _ (by omega) | exact hc.rf _ (by omega))
 . exact ob_lt (by omega)
 . exact rowB_ok.mpr (by first | exact hc.hs | exact hc.rw | exact hc.rc _ (by omega) | exact hc.rf _ (by omega))
 . exact ob_idx (by omega)
 . exact ob_yes (by omega)
 . exact rowB_ok.mpr (by first | exact hc.hs | exact hc.rw | exact hc.rc _ (by omega) | exact hc.rf _ (by omega))
 . exact rowB_ok.mpr (by first | exact hc.hs | exact hc.rw | exact hc.rc _ (by omega) | exact hc.rf _ (by omega))
 . exact ob_lt (by omega)
 . exact rowB_ok.mpr (by first | exact hc.hs | exact hc.rw | exact hc.rc _ (by omega) | exact hc.rf _ (by omega))
 . exact ob_idx (by omega)
theorem ck3_tttftt (gl : Gl) (c : Cn) (hc : CnOk gl c) (sc : CnSm gl c) (i : Nat) (hi : i < c.hn) (k : Nat) (hk : k < lenV (c.hv gl i)) (h1 : ((rcG gl (c.hv gl i) k).sh == -1) = true) (h2 : ((rcG gl (c.hv gl i) k).wt) = true) (h3 : ((rcG gl (c.hv gl i) k).fl) = false) (h4 : (!(rcG gl (c.hv gl i) k).sa == 0) = true) (h5 : (!thZ gl c (rcG gl (c.hv gl i) k).sh (rcG gl (c.hv gl i) k).sa) = true) (W : World) (hG : GlobOk gl W) : S2.Sem (enF gl) W 144 (ckK (ckI3 ++ (0 :: ckP2))) (ckS c [iS 4 i, iS 5 k]) (some none) (ckT 1) := by
 have s1 := sc.1
 have s2 := sc.2.1
 have s3 := sc.2.2.1 i hi
 refine sem_iter (enF_ok gl) hG (p := ckZ) (fuel := 1000) [true, true, true, false, true, true] [(!thZ gl c (rcG gl (c.hv gl i) k).sh (rcG gl (c.hv gl i) k).sa, true), (pre (okC gl (c, (rcG gl (c.hv gl i) k).sh, (rcG gl (c.hv gl i) k).sa).fst), true), (!(rcG gl (c.hv gl i) k).sa == 0, true), ((rcG gl (c.hv gl i) k).fl, false), ((rcG gl (c.hv gl i) k).wt, true), ((rcG gl (c.hv gl i) k).sh == -1, true), (pre (rowB gl (c.hv gl i) (rcE gl (c.hv gl i))), true), (pre (decide (k < (lenV (c.hv gl i)))), true), (pre (rowB gl (c.hv gl i) (rcE gl (c.hv gl i))), true), (pre (idxB ((k : Int)) (lenV (c.hv gl i))), true), (pre (rowB gl c.h (hsE gl c.h)), true), (pre (decide (i < c.hn)), true), (pre (rowB gl c.h (hsE gl c.h)), true), (pre (idxB ((i : Int)) c.hn), true), (decide ((k : Int) < ((lenV (c.hv gl i) : Nat) : Int)), true), (pre (rowB gl (c.hv gl i) (rcE gl (c.hv gl i))), true), (pre (rowB gl c.h (hsE gl c.h)), true), (pre (decide (i < c.hn)), true), (pre (rowB gl c.h (hsE gl c.h)), true), (pre (idxB ((i : Int)) c.hn), true)] (by kernel_rfl) (by kernel_rfl) ?_
 refine qF ?_ ?_ ?_ ?_ <| qF ?_ ?_ ?_ ?_ <| qF ?_ ?_ ?_ ?_ <| qF ?_ ?_ ?_ ?_ <| qF ?_ ?_ ?_ ?_ <| qZ
 . assumption
 . exact propB_ok.mpr hc
 . assumption
 . assumption
 . assumption
 . assumption
 . exact rowB_ok.mpr (by first | exact hc.hs | exact hc.rw | exact hc.rc _ (by omega) | exact hc.rf _ (by omega))
 . exact ob_lt (by omega)
 . exact rowB_ok.mpr (by first | exact hc.hs | exact hc.rw | exact hc.rc _ (by omega) | exact hc.rf _ (by omega))
 . exact ob_idx (by omega)
 . exact rowB_ok.mpr (by first | exact hc.hs | exact hc.rw | exact hc.rc _ (by omega) | exact hc.rf _ (by omega))
 . exact ob_lt (by omega)
 . exact rowB_ok.mpr (by first | exact hc.hs | exact hc.rw | exact hc.rc _ (by omega) | exact hc.rf _ (by omega))
 . exact ob_idx (by omega)
 . exact ob_yes (by omega)
 . exact rowB_ok.mpr (by first | exact hc.hs | exact hc.rw | exact hc.rc _ (by omega) | exact hc.rf _ (by omega))
 . exact rowB_ok.mpr (by first | exact hc.hs | exact hc.rw | exact hc.rc _ (by omega) | exact hc.rf _ (by omega))
 . exact ob_lt (by omega)
 . exact rowB_ok.mpr (by first | exact hc.hs | exact hc.rw | exact hc.rc _ (by omega) | exact hc.rf _ (by omega))
 . exact ob_idx (by omega)
theorem ck3_tttt (gl : Gl) (c : Cn) (hc : CnOk gl c) (sc : CnSm gl c) (i : Nat) (hi : i < c.hn) (k : Nat) (hk : k < lenV (c.hv gl i)) (h1 : ((rcG gl (c.hv gl i) k).sh == -1) = true) (h2 : ((rcG gl (c.hv gl i) k).wt) = true) (h3 : ((rcG gl (c.hv gl i) k).fl) = true) (W : World) (hG : GlobOk gl W) : S2.Sem (enF gl) W 144 (ckK (ckI3 ++ (0 :: ckP2))) (ckS c [iS 4 i, iS 5 k]) (some none) (ckT 1) := by
 have s1 := sc.1
 have s2 := sc.2.1
 have s3 := sc.2.2.1 i hi
 refine sem_iter (enF_ok gl) hG (p := ckZ) (fuel := 1000) [true, true, true, true] [((rcG gl (c.hv gl i) k).fl, true), ((rcG gl (c.hv gl i) k).wt, true), ((rcG gl (c.hv gl i) k).sh == -1, true), (pre (rowB gl (c.hv gl i) (rcE gl (c.hv gl i))), true), (pre (decide (k < (lenV (c.hv gl i)))), true), (pre (rowB gl (c.hv gl i) (rcE gl (c.hv gl i))), true), (pre (idxB ((k : Int)) (lenV (c.hv gl i))), true), (pre (rowB gl c.h (hsE gl c.h)), true), (pre (decide (i < c.hn)), true), (pre (rowB gl c.h (hsE gl c.h)), true), (pre (idxB ((i : Int)) c.hn), true), (decide ((k : Int) < ((lenV (c.hv gl i) : Nat) : Int)), true), (pre (rowB gl (c.hv gl i) (rcE gl (c.hv gl i))), true), (pre (rowB gl c.h (hsE gl c.h)), true), (pre (decide (i < c.hn)), true), (pre (rowB gl c.h (hsE gl c.h)), true), (pre (idxB ((i : Int)) c.hn), true)] (by kernel_rfl) (by kernel_rfl) ?_
 refine qF ?_ ?_ ?_ ?_ <| qF ?_ ?_ ?_ ?_ <| qF ?_ ?_ ?_ ?_ <| qF ?_ ?_ ?_ ?_ <| qA ?_ <| qZ
 . assumption
 . assumption
 . assumption
 . exact rowB_ok.mpr (by first | exact hc.hs | exact hc.rw | exact hc.rc _ (by omega) | exact hc.rf _ (by omega))
 . exact ob_lt (by omega)
 . exact rowB_ok.mpr (by first | exact hc.hs | exact hc.rw | exact hc.rc _ (by omega) | exact hc.rf _ (by omega))
 . exact ob_idx (by omega)
 . exact rowB_ok.mpr (by first | exact hc.hs | exact hc.rw | exact hc.rc _ (by omega) | exact hc.rf _ (by omega))
 . exact ob_lt (by omega)
 . exact rowB_ok.mpr (by first | exact hc.hs | exact hc.rw | exact hc.rc _ (by omega) | exact hc.rf _ (by omega))
 . exact ob_idx (by omega)
 . exact ob_yes (by omega)
 . exact rowB_ok.mpr (by first | exact hc.hs | exact hc.rw | exact hc.rc _ (by omega) | exact hc.rf _ (by omega))
 . exact rowB_ok.mpr (by first | exact hc.hs | exact hc.rw | exact hc.rc _ (by omega) | exact hc.rf _ (by omega))
 . exact ob_lt (by omega)
 . exact rowB_ok.mpr (by first | exact hc.hs | exact hc.rw | exact hc.rc _ (by omega) | exact hc.rf _ (by omega))
 . exact ob_idx (by omega)
theorem ck3_step (gl : Gl) (c : Cn) (hc : CnOk gl c) (sc : CnSm gl c) (i : Nat) (hi : i < c.hn) (k : Nat) (hk : k < lenV (c.hv gl i)) (h : ck3B gl c i k = true) (W : World) (hG : GlobOk gl W) : S2.Sem (enF gl) W 144 (ckK (ckI3 ++ (0 :: ckP2))) (ckS c [iS 4 i, iS 5 k]) none (ckS c [iS 4 i, iS 5 (k + 1)]) := by
 cases h1 : ((rcG gl (c.hv gl i) k).sh == -1)
 case' false =>
   cases h2 : ((rcG gl (c.hv gl i) k).wt)
   case' false =>
     cases h3 : (!thZ gl c (rcG gl (c.hv gl i) k).sh (rcG gl (c.hv gl i) k).sa)
     case' false =>
       exact ck3_tfff gl c hc sc i hi k hk h1 h2 h3 W hG
     case' true =>
       exfalso; unfold ck3B at h; rw [h1, h2, h3] at h; first | (cases h; done) | simp at h
   case' true =>
     cases h3 : ((rcG gl (c.hv gl i) k).fl)
     case' false =>
       cases h4 : (!thZ gl c (rcG gl (c.hv gl i) k).sh (rcG gl (c.hv gl i) k).sa)
       case' false =>
         exact ck3_tftff gl c hc sc i hi k hk h1 h2 h3 h4 W hG
       case' true =>
         exfalso; unfold ck3B at h; rw [h1, h2, h3, h4] at h; first | (cases h; done) | simp at h
     case' true =>
       exfalso; unfold ck3B at h; rw [h1, h2, h3] at h; first | (cases h; done) | simp at h
 case' true =>
   cases h2 : ((rcG gl (c.hv gl i) k).wt)
   case' false =>
     cases h3 : (!(rcG gl (c.hv gl i) k).sa == 0)
     case' false =>
       exact ck3_ttff gl c hc sc i hi k hk h1 h2 h3 W hG
     case' true =>
       cases h4 : (!thZ gl c (rcG gl (c.hv gl i) k).sh (rcG gl (c.hv gl i) k).sa)
       case' false =>
         exact ck3_ttftf gl c hc sc i hi k hk h1 h2 h3 h4 W hG
       case' true =>
         exfalso; unfold ck3B at h; rw [h1, h2, h3, h4] at h; first | (cases h; done) | simp at h
   case' true =>
     cases h3 : ((rcG gl (c.hv gl i) k).fl)
     case' false =>
       cases h4 : (!(rcG gl (c.hv gl i) k).sa == 0)
       case' false =>
         exact ck3_tttff gl c hc sc i hi k hk h1 h2 h3 h4 W hG
       case' true =>
         cases h5 : (!thZ gl c (rcG gl (c.hv gl i) k).sh (rcG gl (c.hv gl i) k).sa)
         case' false =>
           exact ck3_tttftf gl c hc sc i hi k hk h1 h2 h3 h4 h5 W hG
         case' true =>
           exfalso; unfold ck3B at h; rw [h1, h2, h3, h4, h5] at h; first | (cases h; done) | simp at h
     case' true =>
       exfalso; unfold ck3B at h; rw [h1, h2, h3] at h; first | (cases h; done) | simp at h
theorem ck3_out (gl : Gl) (c : Cn) (hc : CnOk gl c) (sc : CnSm gl c) (i : Nat) (hi : i < c.hn) (k : Nat) (hk : k < lenV (c.hv gl i)) (h : ck3B gl c i k = false) (W : World) (hG : GlobOk gl W) : S2.Sem (enF gl) W 144 (ckK (ckI3 ++ (0 :: ckP2))) (ckS c [iS 4 i, iS 5 k]) (some none) (ckT 1) := by
 cases h1 : ((rcG gl (c.hv gl i) k).sh == -1)
 case' false =>
   cases h2 : ((rcG gl (c.hv gl i) k).wt)
   case' false =>
     cases h3 : (!thZ gl c (rcG gl (c.hv gl i) k).sh (rcG gl (c.hv gl i) k).sa)
     case' false =>
       exfalso; unfold ck3B at h; rw [h1, h2, h3] at h; first | (cases h; done) | simp at h
     case' true =>
       exact ck3_tfft gl c hc sc i hi k hk h1 h2 h3 W hG
   case' true =>
     cases h3 : ((rcG gl (c.hv gl i) k).fl)
     case' false =>
       cases h4 : (!thZ gl c (rcG gl (c.hv gl i) k).sh (rcG gl (c.hv gl i) k).sa)
       case' false =>
         exfalso; unfold ck3B at h; rw [h1, h2, h3, h4] at h; first | (cases h; done) | simp at h
       case' true =>
         exact ck3_tftft gl c hc sc i hi k hk h1 h2 h3 h4 W hG
     case' true =>
       exact ck3_tftt gl c hc sc i hi k hk h1 h2 h3 W hG
 case' true =>
   cases h2 : ((rcG gl (c.hv gl i) k).wt)
   case' false =>
     cases h3 : (!(rcG gl (c.hv gl i) k).sa == 0)
     case' false =>
       exfalso; unfold ck3B at h; rw [h1, h2, h3] at h; first | (cases h; done) | simp at h
     case' true =>
       cases h4 : (!thZ gl c (rcG gl (c.hv gl i) k).sh (rcG gl (c.hv gl i) k).sa)
       case' false =>
         exfalso; unfold ck3B at h; rw [h1, h2, h3, h4] at h; first | (cases h; done) | simp at h
       case' true =>
         exact ck3_ttftt gl c hc sc i hi k hk h1 h2 h3 h4 W hG
   case' true =>
     cases h3 : ((rcG gl (c.hv gl i) k).fl)
     case' false =>
       cases h4 : (!(rcG gl (c.hv gl i) k).sa == 0)
       case' false =>
         exfalso; unfold ck3B at h; rw [h1, h2, h3, h4] at h; first | (cases h; done) | simp at h
       case' true =>
         cases h5 : (!thZ gl c (rcG gl (c.hv gl i) k).sh (rcG gl (c.hv gl i) k).sa)
         case' false =>
           exfalso; unfold ck3B at h; rw [h1, h2, h3, h4, h5] at h; first | (cases h; done) | simp at h
         case' true =>
           exact ck3_tttftt gl c hc sc i hi k hk h1 h2 h3 h4 h5 W hG
     case' true =>
       exact ck3_tttt gl c hc sc i hi k hk h1 h2 h3 W hG
theorem ck3_end (gl : Gl) (c : Cn) (hc : CnOk gl c) (sc : CnSm gl c) (i : Nat) (hi : i < c.hn) (W : World) (hG : GlobOk gl W) : S2.Sem (enF gl) W 144 (ckK (ckI3 ++ (0 :: ckP2))) (ckS c [iS 4 i, iS 5 (lenV (c.hv gl i))]) (some (some 4)) (ckS c [iS 4 i, iS 5 (lenV (c.hv gl i))]) := by
 refine sem_iter (enF_ok gl) hG (p := (ckQ [4, 5])) (fuel := 1000) [false] [(decide (((lenV (c.hv gl i) : Nat) : Int) < ((lenV (c.hv gl i) : Nat) : Int)), false), (pre (rowB gl (c.hv gl i) (rcE gl (c.hv gl i))), true), (pre (rowB gl c.h (hsE gl c.h)), true), (pre (decide (i < c.hn)), true), (pre (rowB gl c.h (hsE gl c.h)), true), (pre (idxB ((i : Int)) c.hn), true)] (by kernel_rfl) (by kernel_rfl) ?_
 refine qF ?_ ?_ ?_ ?_ <| qA ?_ <| qA ?_ <| qZ
 . exact ob_no (by omega)
 . exact rowB_ok.mpr (by first | exact hc.hs | exact hc.rw | exact hc.rc _ (by omega) | exact hc.rf _ (by omega))
 . exact rowB_ok.mpr (by first | exact hc.hs | exact hc.rw | exact hc.rc _ (by omega) | exact hc.rf _ (by omega))
 . exact ob_lt (by omega)
 . exact rowB_ok.mpr (by first | exact hc.hs | exact hc.rw | exact hc.rc _ (by omega) | exact hc.rf _ (by omega))
 . exact ob_idx (by omega)
theorem ck3_yes (gl : Gl) (c : Cn) (hc : CnOk gl c) (sc : CnSm gl c) (i : Nat) (hi : i < c.hn) (h : skipN (ck3B gl c i) (lenV (c.hv gl i)) 0 = lenV (c.hv gl i)) (W : World) (hG : GlobOk gl W) : S2.Sem (enF gl) W 144 (.loop (ckK (ckI3 ++ (0 :: ckP2)))) (ckS c [iS 4 i, iS 5 0]) (some (some 4)) (ckS c [iS 4 i, iS 5 (lenV (c.hv gl i))]) :=
 sem_loop (E := enF gl) (w0 := base0 W) (nb := 0) (nl := 0) (n := 144) (c := (ckK (ckI3 ++ (0 :: ckP2)))) (x := (some (some 4))) (s' := ckS c [iS 4 i, iS 5 (lenV (c.hv gl i))]) (fun z => ckS c [iS 4 i, iS 5 z]) (lenV (c.hv gl i)) (by simp) (fun z hz => ck3_step gl c hc sc i hi z hz (skipN_all (ck3B gl c i) (lenV (c.hv gl i)) 0 z (by omega) (by omega)) W hG) (ck3_end gl c hc sc i hi W hG)
theorem ck3_no (gl : Gl) (c : Cn) (hc : CnOk gl c) (sc : CnSm gl c) (i : Nat) (hi : i < c.hn) (h : skipN (ck3B gl c i) (lenV (c.hv gl i)) 0 ≠ lenV (c.hv gl i)) (W : World) (hG : GlobOk gl W) : S2.Sem (enF gl) W 144 (.loop (ckK (ckI3 ++ (0 :: ckP2)))) (ckS c [iS 4 i, iS 5 0]) (some none) (ckT 1) := by
 have g4 := skipN_le (ck3B gl c i) (lenV (c.hv gl i)) 0
 exact sem_loop (E := enF gl) (w0 := base0 W) (nb := 0) (nl := 0) (n := 144) (c := (ckK (ckI3 ++ (0 :: ckP2)))) (x := some none) (s' := ckT 1) (fun z => ckS c [iS 4 i, iS 5 z]) (skipN (ck3B gl c i) (lenV (c.hv gl i)) 0) (by simp) (fun z hz => ck3_step gl c hc sc i hi z (by omega) (skipN_all (ck3B gl c i) (lenV (c.hv gl i)) 0 z (by omega) hz) W hG) (ck3_out gl c hc sc i hi _ (by omega) (skipN_hit (by omega)) W hG)
noncomputable def ck2B (gl : Gl) (c : Cn) (i : Nat) : Bool := Nat.beq (skipN (ck3B gl c i) (lenV (c.hv gl i)) 0) (lenV (c.hv gl i))
theorem ck2_ty (gl : Gl) (c : Cn) (hc : CnOk gl c) (sc : CnSm gl c) (i : Nat) (hi : i < c.hn)  (h : skipN (ck3B gl c i) (lenV (c.hv gl i)) 0 = lenV (c.hv gl i)) (W : World) (hG : GlobOk gl W) : S2.Sem (enF gl) W 144 (ckK ckP2) (ckS c [iS 4 i]) none (ckS c [iS 4 (i + 1)]) := by
 have s1 := sc.1
 have s2 := sc.2.1
 have s3 := sc.2.2.1 i hi
 refine sem_iterP (enF_ok gl) hG (fuel := 1000) (d := 30) (p := (ckQ [4])) [⟨ckI3, (ckQ [4, 5]), (some (some 4)), (ckS c [iS 4 i, iS 5 (lenV (c.hv gl i))])⟩] [true] [(pre (inI ((i : Int) + 1)), true), (decide ((i : Int) < (c.hn : Int)), true), (pre (rowB gl c.h (hsE gl c.h)), true)] [⟨.loop (ckK (ckI3 ++ (0 :: ckP2))), ckS c [iS 4 i, iS 5 0], (some (some 4)), (ckS c [iS 4 i, iS 5 (lenV (c.hv gl i))])⟩] (by kernel_rfl) (by kernel_rfl) ?_ (fun t ht => by obtain rfl := List.mem_singleton.mp ht; exact ck3_yes gl c hc sc i hi h W hG)
 refine qA ?_ <| qA ?_ <| qA ?_ <| qZ
 . exact ob_inI (by omega)
 . exact ob_yes (by omega)
 . exact rowB_ok.mpr (by first | exact hc.hs | exact hc.rw | exact hc.rc _ (by omega) | exact hc.rf _ (by omega))
theorem ck2_tn (gl : Gl) (c : Cn) (hc : CnOk gl c) (sc : CnSm gl c) (i : Nat) (hi : i < c.hn)  (h : skipN (ck3B gl c i) (lenV (c.hv gl i)) 0 ≠ lenV (c.hv gl i)) (W : World) (hG : GlobOk gl W) : S2.Sem (enF gl) W 144 (ckK ckP2) (ckS c [iS 4 i]) (some none) (ckT 1) := by
 have s1 := sc.1
 have s2 := sc.2.1
 have s3 := sc.2.2.1 i hi
 refine sem_iterP (enF_ok gl) hG (fuel := 1000) (d := 30) (p := ckZ) [⟨ckI3, (ckQ [4, 5]), some none, ckT 1⟩] [true] [(decide ((i : Int) < (c.hn : Int)), true), (pre (rowB gl c.h (hsE gl c.h)), true)] [⟨.loop (ckK (ckI3 ++ (0 :: ckP2))), ckS c [iS 4 i, iS 5 0], some none, ckT 1⟩] (by kernel_rfl) (by kernel_rfl) ?_ (fun t ht => by obtain rfl := List.mem_singleton.mp ht; exact ck3_no gl c hc sc i hi h W hG)
 refine qA ?_ <| qA ?_ <| qZ
 . exact ob_yes (by omega)
 . exact rowB_ok.mpr (by first | exact hc.hs | exact hc.rw | exact hc.rc _ (by omega) | exact hc.rf _ (by omega))
theorem ck2_step (gl : Gl) (c : Cn) (hc : CnOk gl c) (sc : CnSm gl c) (i : Nat) (hi : i < c.hn) (h : ck2B gl c i = true) (W : World) (hG : GlobOk gl W) : S2.Sem (enF gl) W 144 (ckK ckP2) (ckS c [iS 4 i]) none (ckS c [iS 4 (i + 1)]) := by
 unfold ck2B at h; exact ck2_ty gl c hc sc i hi  (qB h) W hG
theorem ck2_out (gl : Gl) (c : Cn) (hc : CnOk gl c) (sc : CnSm gl c) (i : Nat) (hi : i < c.hn) (h : ck2B gl c i = false) (W : World) (hG : GlobOk gl W) : S2.Sem (enF gl) W 144 (ckK ckP2) (ckS c [iS 4 i]) (some none) (ckT 1) := by
 unfold ck2B at h; exact ck2_tn gl c hc sc i hi  (fun hh => by rw [hh] at h; simp at h) W hG
theorem ck2_end (gl : Gl) (c : Cn) (hc : CnOk gl c) (sc : CnSm gl c) (W : World) (hG : GlobOk gl W) : S2.Sem (enF gl) W 144 (ckK ckP2) (ckS c [iS 4 c.hn]) (some (some 2)) (ckS c [iS 4 c.hn]) := by
 refine sem_iter (enF_ok gl) hG (p := (ckQ [4])) (fuel := 1000) [false] [(decide (((c.hn : Nat) : Int) < (c.hn : Int)), false), (pre (rowB gl c.h (hsE gl c.h)), true)] (by kernel_rfl) (by kernel_rfl) ?_
 refine qA ?_ <| qA ?_ <| qZ
 . exact ob_no (by omega)
 . exact rowB_ok.mpr (by first | exact hc.hs | exact hc.rw | exact hc.rc _ (by omega) | exact hc.rf _ (by omega))
theorem ck2_yes (gl : Gl) (c : Cn) (hc : CnOk gl c) (sc : CnSm gl c) (h : skipN (ck2B gl c) (c.hn) 0 = c.hn) (W : World) (hG : GlobOk gl W) : S2.Sem (enF gl) W 144 (.loop (ckK ckP2)) (ckS c [iS 4 0]) (some (some 2)) (ckS c [iS 4 c.hn]) :=
 sem_loop (E := enF gl) (w0 := base0 W) (nb := 0) (nl := 0) (n := 144) (c := (ckK ckP2)) (x := (some (some 2))) (s' := ckS c [iS 4 c.hn]) (fun z => ckS c [iS 4 z]) (c.hn) (by simp) (fun z hz => ck2_step gl c hc sc z hz (skipN_all (ck2B gl c) (c.hn) 0 z (by omega) (by omega)) W hG) (ck2_end gl c hc sc W hG)
theorem ck2_no (gl : Gl) (c : Cn) (hc : CnOk gl c) (sc : CnSm gl c) (h : skipN (ck2B gl c) (c.hn) 0 ≠ c.hn) (W : World) (hG : GlobOk gl W) : S2.Sem (enF gl) W 144 (.loop (ckK ckP2)) (ckS c [iS 4 0]) (some none) (ckT 1) := by
 have g4 := skipN_le (ck2B gl c) (c.hn) 0
 exact sem_loop (E := enF gl) (w0 := base0 W) (nb := 0) (nl := 0) (n := 144) (c := (ckK ckP2)) (x := some none) (s' := ckT 1) (fun z => ckS c [iS 4 z]) (skipN (ck2B gl c) (c.hn) 0) (by simp) (fun z hz => ck2_step gl c hc sc z (by omega) (skipN_all (ck2B gl c) (c.hn) 0 z (by omega) hz) W hG) (ck2_out gl c hc sc _ (by omega) (skipN_hit (by omega)) W hG)
noncomputable def ck5B (gl : Gl) (c : Cn) (i k : Nat) : Bool := (bif !thZ gl c (rfG gl (c.rv gl i) k).h (rfG gl (c.rv gl i) k).a then false else (bif twiZ gl c (i : Int) (k : Int) then false else true))
theorem ck5_tff (gl : Gl) (c : Cn) (hc : CnOk gl c) (sc : CnSm gl c) (i : Nat) (hi : i < c.rn) (k : Nat) (hk : k < lenV (c.rv gl i)) (h1 : (!thZ gl c (rfG gl (c.rv gl i) k).h (rfG gl (c.rv gl i) k).a) = false) (h2 : (twiZ gl c (i : Int) (k : Int)) = false) (W : World) (hG : GlobOk gl W) : S2.Sem (enF gl) W 144 (ckK (ckI5 ++ (0 :: ckP4))) (ckS c [iS 8 i, iS 9 k]) none (ckS c [iS 8 i, iS 9 (k + 1)]) := by
 have s1 := sc.1
 have s2 := sc.2.1
 have s3 := sc.2.2.2 i hi
 refine sem_iter (enF_ok gl) hG (p := (ckQ [8, 9])) (fuel := 1000) [true, false, false] [(pre (inI ((k : Int) + 1)), true), (twiZ gl c (i : Int) (k : Int), false), (pre (propB (CnOk gl (c, (i : Int), (k : Int)).fst /\ CnSm gl (c, (i : Int), (k : Int)).fst /\ 0 <= (c, (i : Int), (k : Int)).snd.fst /\ (c, (i : Int), (k : Int)).snd.fst < ↑(c, (i : Int), (k : Int)).fst.rn /\ 0 <= (c, (i : Int), (k : Int)).snd.snd /\ (c, (i : Int), (k : Int)).snd.snd < ↑(lenV (Cn.rv gl (c, (i : Int), (k : Int)).fst (c, (i : Int), (k : Int)).snd.fst.toNat)))), true), (!thZ gl c (rfG gl (c.rv gl i) k).h (rfG gl (c.rv gl i) k).a, false), (pre (okC gl (c, (rfG gl (c.rv gl i) k).h, (rfG gl (c.rv gl i) k).a).fst), true), (pre (rowB gl (c.rv gl i) (rfE gl (c.rv gl i))), true), (pre (decide (k < (lenV (c.rv gl i)))), true), (pre (rowB gl (c.rv gl i) (rfE gl (c.rv gl i))), true), (pre (idxB ((k : Int)) (lenV (c.rv gl i))), true), (pre (rowB gl c.r (rwE gl c.r)), true), (pre (decide (i < c.rn)), true), (pre (rowB gl c.r (rwE gl c.r)), true), (pre (decide (i < c.rn)), true), (pre (rowB gl c.r (rwE gl c.r)), true), (pre (idxB ((i : Int)) c.rn), true), (decide ((k : Int) < ((lenV (c.rv gl i) : Nat) : Int)), true), (pre (rowB gl (c.rv gl i) (rfE gl (c.rv gl i))), true), (pre (rowB gl c.r (rwE gl c.r)), true), (pre (decide (i < c.rn)), true), (pre (rowB gl c.r (rwE gl c.r)), true), (pre (decide (i < c.rn)), true), (pre (rowB gl c.r (rwE gl c.r)), true), (pre (idxB ((i : Int)) c.rn), true)] (by kernel_rfl) (by kernel_rfl) ?_
 refine qF ?_ ?_ ?_ ?_ <| qF ?_ ?_ ?_ ?_ <| qF ?_ ?_ ?_ ?_ <| qF ?_ ?_ ?_ ?_ <| qF ?_ ?_ ?_ ?_ <| qA ?_ <| qA ?_ <| qA ?_ <| qZ
 . exact ob_inI (by omega)
 . assumption
 . exact propB_ok.mpr ⟨hc, sc, by show (0 : Int) <= (i : Int); omega, by show (i : Int) < (c.rn : Int); omega, by show (0 : Int) <= (k : Int); omega, by show (k : Int) < ((lenV (c.rv gl (i : Int).toNat) : Nat) : Int); rw [qN]; omega⟩
 . assumption
 . exact propB_ok.mpr hc
 . exact rowB_ok.mpr (by first | exact hc.hs | exact hc.rw | exact hc.rc _ (by omega) | exact hc.rf _ (by omega))
 . exact ob_lt (by omega)
 . exact rowB_ok.mpr (by first | exact hc.hs | exact hc.rw | exact hc.rc _ (by omega) | exact hc.rf _ (by omega))
 . exact ob_idx (by omega)
 . exact rowB_ok.mpr (by first | exact hc.hs | exact hc.rw | exact hc.rc _ (by omega) | exact hc.rf _ (by omega))
 . exact ob_lt (by omega)
 . exact rowB_ok.mpr (by first | exact hc.hs | exact hc.rw | exact hc.rc _ (by omega) | exact hc.rf _ (by omega))
 . exact ob_lt (by omega)
 . exact rowB_ok.mpr (by first | exact hc.hs | exact hc.rw | exact hc.rc _ (by omega) | exact hc.rf _ (by omega))
 . exact ob_idx (by omega)
 . exact ob_yes (by omega)
 . exact rowB_ok.mpr (by first | exact hc.hs | exact hc.rw | exact hc.rc _ (by omega) | exact hc.rf _ (by omega))
 . exact rowB_ok.mpr (by first | exact hc.hs | exact hc.rw | exact hc.rc _ (by omega) | exact hc.rf _ (by omega))
 . exact ob_lt (by omega)
 . exact rowB_ok.mpr (by first | exact hc.hs | exact hc.rw | exact hc.rc _ (by omega) | exact hc.rf _ (by omega))
 . exact ob_lt (by omega)
 . exact rowB_ok.mpr (by first | exact hc.hs | exact hc.rw | exact hc.rc _ (by omega) | exact hc.rf _ (by omega))
 . exact ob_idx (by omega)
theorem ck5_tft (gl : Gl) (c : Cn) (hc : CnOk gl c) (sc : CnSm gl c) (i : Nat) (hi : i < c.rn) (k : Nat) (hk : k < lenV (c.rv gl i)) (h1 : (!thZ gl c (rfG gl (c.rv gl i) k).h (rfG gl (c.rv gl i) k).a) = false) (h2 : (twiZ gl c (i : Int) (k : Int)) = true) (W : World) (hG : GlobOk gl W) : S2.Sem (enF gl) W 144 (ckK (ckI5 ++ (0 :: ckP4))) (ckS c [iS 8 i, iS 9 k]) (some none) (ckT 1) := by
 have s1 := sc.1
 have s2 := sc.2.1
 have s3 := sc.2.2.2 i hi
 refine sem_iter (enF_ok gl) hG (p := ckZ) (fuel := 1000) [true, false, true] [(twiZ gl c (i : Int) (k : Int), true), (pre (propB (CnOk gl (c, (i : Int), (k : Int)).fst /\ CnSm gl (c, (i : Int), (k : Int)).fst /\ 0 <= (c, (i : Int), (k : Int)).snd.fst /\ (c, (i : Int), (k : Int)).snd.fst < ↑(c, (i : Int), (k : Int)).fst.rn /\ 0 <= (c, (i : Int), (k : Int)).snd.snd /\ (c, (i : Int), (k : Int)).snd.snd < ↑(lenV (Cn.rv gl (c, (i : Int), (k : Int)).fst (c, (i : Int), (k : Int)).snd.fst.toNat)))), true), (!thZ gl c (rfG gl (c.rv gl i) k).h (rfG gl (c.rv gl i) k).a, false), (pre (okC gl (c, (rfG gl (c.rv gl i) k).h, (rfG gl (c.rv gl i) k).a).fst), true), (pre (rowB gl (c.rv gl i) (rfE gl (c.rv gl i))), true), (pre (decide (k < (lenV (c.rv gl i)))), true), (pre (rowB gl (c.rv gl i) (rfE gl (c.rv gl i))), true), (pre (idxB ((k : Int)) (lenV (c.rv gl i))), true), (pre (rowB gl c.r (rwE gl c.r)), true), (pre (decide (i < c.rn)), true), (pre (rowB gl c.r (rwE gl c.r)), true), (pre (decide (i < c.rn)), true), (pre (rowB gl c.r (rwE gl c.r)), true), (pre (idxB ((i : Int)) c.rn), true), (decide ((k : Int) < ((lenV (c.rv gl i) : Nat) : Int)), true), (pre (rowB gl (c.rv gl i) (rfE gl (c.rv gl i))), true), (pre (rowB gl c.r (rwE gl c.r)), true), (pre (decide (i < c.rn)), true), (pre (rowB gl c.r (rwE gl c.r)), true), (pre (decide (i < c.rn)), true), (pre (rowB gl c.r (rwE gl c.r)), true), (pre (idxB ((i : Int)) c.rn), true)] (by kernel_rfl) (by kernel_rfl) ?_
 refine qF ?_ ?_ ?_ ?_ <| qF ?_ ?_ ?_ ?_ <| qF ?_ ?_ ?_ ?_ <| qF ?_ ?_ ?_ ?_ <| qF ?_ ?_ ?_ ?_ <| qA ?_ <| qA ?_ <| qZ
 . assumption
 . exact propB_ok.mpr ⟨hc, sc, by show (0 : Int) <= (i : Int); omega, by show (i : Int) < (c.rn : Int); omega, by show (0 : Int) <= (k : Int); omega, by show (k : Int) < ((lenV (c.rv gl (i : Int).toNat) : Nat) : Int); rw [qN]; omega⟩
 . assumption
 . exact propB_ok.mpr hc
 . exact rowB_ok.mpr (by first | exact hc.hs | exact hc.rw | exact hc.rc _ (by omega) | exact hc.rf _ (by omega))
 . exact ob_lt (by omega)
 . exact rowB_ok.mpr (by first | exact hc.hs | exact hc.rw | exact hc.rc _ (by omega) | exact hc.rf _ (by omega))
 . exact ob_idx (by omega)
 . exact rowB_ok.mpr (by first | exact hc.hs | exact hc.rw | exact hc.rc _ (by omega) | exact hc.rf _ (by omega))
 . exact ob_lt (by omega)
 . exact rowB_ok.mpr (by first | exact hc.hs | exact hc.rw | exact hc.rc _ (by omega) | exact hc.rf _ (by omega))
 . exact ob_lt (by omega)
 . exact rowB_ok.mpr (by first | exact hc.hs | exact hc.rw | exact hc.rc _ (by omega) | exact hc.rf _ (by omega))
 . exact ob_idx (by omega)
 . exact ob_yes (by omega)
 . exact rowB_ok.mpr (by first | exact hc.hs | exact hc.rw | exact hc.rc _ (by omega) | exact hc.rf _ (by omega))
 . exact rowB_ok.mpr (by first | exact hc.hs | exact hc.rw | exact hc.rc _ (by omega) | exact hc.rf _ (by omega))
 . exact ob_lt (by omega)
 . exact rowB_ok.mpr (by first | exact hc.hs | exact hc.rw | exact hc.rc _ (by omega) | exact hc.rf _ (by omega))
 . exact ob_lt (by omega)
 . exact rowB_ok.mpr (by first | exact hc.hs | exact hc.rw | exact hc.rc _ (by omega) | exact hc.rf _ (by omega))
 . exact ob_idx (by omega)
theorem ck5_tt (gl : Gl) (c : Cn) (hc : CnOk gl c) (sc : CnSm gl c) (i : Nat) (hi : i < c.rn) (k : Nat) (hk : k < lenV (c.rv gl i)) (h1 : (!thZ gl c (rfG gl (c.rv gl i) k).h (rfG gl (c.rv gl i) k).a) = true) (W : World) (hG : GlobOk gl W) : S2.Sem (enF gl) W 144 (ckK (ckI5 ++ (0 :: ckP4))) (ckS c [iS 8 i, iS 9 k]) (some none) (ckT 1) := by
 have s1 := sc.1
 have s2 := sc.2.1
 have s3 := sc.2.2.2 i hi
 refine sem_iter (enF_ok gl) hG (p := ckZ) (fuel := 1000) [true, true] [(!thZ gl c (rfG gl (c.rv gl i) k).h (rfG gl (c.rv gl i) k).a, true), (pre (okC gl (c, (rfG gl (c.rv gl i) k).h, (rfG gl (c.rv gl i) k).a).fst), true), (pre (rowB gl (c.rv gl i) (rfE gl (c.rv gl i))), true), (pre (decide (k < (lenV (c.rv gl i)))), true), (pre (rowB gl (c.rv gl i) (rfE gl (c.rv gl i))), true), (pre (idxB ((k : Int)) (lenV (c.rv gl i))), true), (pre (rowB gl c.r (rwE gl c.r)), true), (pre (decide (i < c.rn)), true), (pre (rowB gl c.r (rwE gl c.r)), true), (pre (decide (i < c.rn)), true), (pre (rowB gl c.r (rwE gl c.r)), true), (pre (idxB ((i : Int)) c.rn), true), (decide ((k : Int) < ((lenV (c.rv gl i) : Nat) : Int)), true), (pre (rowB gl (c.rv gl i) (rfE gl (c.rv gl i))), true), (pre (rowB gl c.r (rwE gl c.r)), true), (pre (decide (i < c.rn)), true), (pre (rowB gl c.r (rwE gl c.r)), true), (pre (decide (i < c.rn)), true), (pre (rowB gl c.r (rwE gl c.r)), true), (pre (idxB ((i : Int)) c.rn), true)] (by kernel_rfl) (by kernel_rfl) ?_
 refine qF ?_ ?_ ?_ ?_ <| qF ?_ ?_ ?_ ?_ <| qF ?_ ?_ ?_ ?_ <| qF ?_ ?_ ?_ ?_ <| qF ?_ ?_ ?_ ?_ <| qZ
 . assumption
 . exact propB_ok.mpr hc
 . exact rowB_ok.mpr (by first | exact hc.hs | exact hc.rw | exact hc.rc _ (by omega) | exact hc.rf _ (by omega))
 . exact ob_lt (by omega)
 . exact rowB_ok.mpr (by first | exact hc.hs | exact hc.rw | exact hc.rc _ (by omega) | exact hc.rf _ (by omega))
 . exact ob_idx (by omega)
 . exact rowB_ok.mpr (by first | exact hc.hs | exact hc.rw | exact hc.rc _ (by omega) | exact hc.rf _ (by omega))
 . exact ob_lt (by omega)
 . exact rowB_ok.mpr (by first | exact hc.hs | exact hc.rw | exact hc.rc _ (by omega) | exact hc.rf _ (by omega))
 . exact ob_lt (by omega)
 . exact rowB_ok.mpr (by first | exact hc.hs | exact hc.rw | exact hc.rc _ (by omega) | exact hc.rf _ (by omega))
 . exact ob_idx (by omega)
 . exact ob_yes (by omega)
 . exact rowB_ok.mpr (by first | exact hc.hs | exact hc.rw | exact hc.rc _ (by omega) | exact hc.rf _ (by omega))
 . exact rowB_ok.mpr (by first | exact hc.hs | exact hc.rw | exact hc.rc _ (by omega) | exact hc.rf _ (by omega))
 . exact ob_lt (by omega)
 . exact rowB_ok.mpr (by first | exact hc.hs | exact hc.rw | exact hc.rc _ (by omega) | exact hc.rf _ (by omega))
 . exact ob_lt (by omega)
 . exact rowB_ok.mpr (by first | exact hc.hs | exact hc.rw | exact hc.rc _ (by omega) | exact hc.rf _ (by omega))
 . exact ob_idx (by omega)
theorem ck5_step (gl : Gl) (c : Cn) (hc : CnOk gl c) (sc : CnSm gl c) (i : Nat) (hi : i < c.rn) (k : Nat) (hk : k < lenV (c.rv gl i)) (h : ck5B gl c i k = true) (W : World) (hG : GlobOk gl W) : S2.Sem (enF gl) W 144 (ckK (ckI5 ++ (0 :: ckP4))) (ckS c [iS 8 i, iS 9 k]) none (ckS c [iS 8 i, iS 9 (k + 1)]) := by
 cases h1 : (!thZ gl c (rfG gl (c.rv gl i) k).h (rfG gl (c.rv gl i) k).a)
 case' false =>
   cases h2 : (twiZ gl c (i : Int) (k : Int))
   case' false =>
     exact ck5_tff gl c hc sc i hi k hk h1 h2 W hG
   case' true =>
     exfalso; unfold ck5B at h; rw [h1, h2] at h; first | (cases h; done) | simp at h
 case' true =>
   exfalso; unfold ck5B at h; rw [h1] at h; first | (cases h; done) | simp at h
theorem ck5_out (gl : Gl) (c : Cn) (hc : CnOk gl c) (sc : CnSm gl c) (i : Nat) (hi : i < c.rn) (k : Nat) (hk : k < lenV (c.rv gl i)) (h : ck5B gl c i k = false) (W : World) (hG : GlobOk gl W) : S2.Sem (enF gl) W 144 (ckK (ckI5 ++ (0 :: ckP4))) (ckS c [iS 8 i, iS 9 k]) (some none) (ckT 1) := by
 cases h1 : (!thZ gl c (rfG gl (c.rv gl i) k).h (rfG gl (c.rv gl i) k).a)
 case' false =>
   cases h2 : (twiZ gl c (i : Int) (k : Int))
   case' false =>
     exfalso; unfold ck5B at h; rw [h1, h2] at h; first | (cases h; done) | simp at h
   case' true =>
     exact ck5_tft gl c hc sc i hi k hk h1 h2 W hG
 case' true =>
   exact ck5_tt gl c hc sc i hi k hk h1 W hG
theorem ck5_end (gl : Gl) (c : Cn) (hc : CnOk gl c) (sc : CnSm gl c) (i : Nat) (hi : i < c.rn) (W : World) (hG : GlobOk gl W) : S2.Sem (enF gl) W 144 (ckK (ckI5 ++ (0 :: ckP4))) (ckS c [iS 8 i, iS 9 (lenV (c.rv gl i))]) (some (some 8)) (ckS c [iS 8 i, iS 9 (lenV (c.rv gl i))]) := by
 refine sem_iter (enF_ok gl) hG (p := (ckQ [8, 9])) (fuel := 1000) [false] [(decide (((lenV (c.rv gl i) : Nat) : Int) < ((lenV (c.rv gl i) : Nat) : Int)), false), (pre (rowB gl (c.rv gl i) (rfE gl (c.rv gl i))), true), (pre (rowB gl c.r (rwE gl c.r)), true), (pre (decide (i < c.rn)), true), (pre (rowB gl c.r (rwE gl c.r)), true), (pre (decide (i < c.rn)), true), (pre (rowB gl c.r (rwE gl c.r)), true), (pre (idxB ((i : Int)) c.rn), true)] (by kernel_rfl) (by kernel_rfl) ?_
 refine qF ?_ ?_ ?_ ?_ <| qF ?_ ?_ ?_ ?_ <| qZ
 . exact ob_no (by omega)
 . exact rowB_ok.mpr (by first | exact hc.hs | exact hc.rw | exact hc.rc _ (by omega) | exact hc.rf _ (by omega))
 . exact rowB_ok.mpr (by first | exact hc.hs | exact hc.rw | exact hc.rc _ (by omega) | exact hc.rf _ (by omega))
 . exact ob_lt (by omega)
 . exact rowB_ok.mpr (by first | exact hc.hs | exact hc.rw | exact hc.rc _ (by omega) | exact hc.rf _ (by omega))
 . exact ob_lt (by omega)
 . exact rowB_ok.mpr (by first | exact hc.hs | exact hc.rw | exact hc.rc _ (by omega) | exact hc.rf _ (by omega))
 . exact ob_idx (by omega)
theorem ck5_yes (gl : Gl) (c : Cn) (hc : CnOk gl c) (sc : CnSm gl c) (i : Nat) (hi : i < c.rn) (h : skipN (ck5B gl c i) (lenV (c.rv gl i)) 0 = lenV (c.rv gl i)) (W : World) (hG : GlobOk gl W) : S2.Sem (enF gl) W 144 (.loop (ckK (ckI5 ++ (0 :: ckP4)))) (ckS c [iS 8 i, iS 9 0]) (some (some 8)) (ckS c [iS 8 i, iS 9 (lenV (c.rv gl i))]) :=
 sem_loop (E := enF gl) (w0 := base0 W) (nb := 0) (nl := 0) (n := 144) (c := (ckK (ckI5 ++ (0 :: ckP4)))) (x := (some (some 8))) (s' := ckS c [iS 8 i, iS 9 (lenV (c.rv gl i))]) (fun z => ckS c [iS 8 i, iS 9 z]) (lenV (c.rv gl i)) (by simp) (fun z hz => ck5_step gl c hc sc i hi z hz (skipN_all (ck5B gl c i) (lenV (c.rv gl i)) 0 z (by omega) (by omega)) W hG) (ck5_end gl c hc sc i hi W hG)
theorem ck5_no (gl : Gl) (c : Cn) (hc : CnOk gl c) (sc : CnSm gl c) (i : Nat) (hi : i < c.rn) (h : skipN (ck5B gl c i) (lenV (c.rv gl i)) 0 ≠ lenV (c.rv gl i)) (W : World) (hG : GlobOk gl W) : S2.Sem (enF gl) W 144 (.loop (ckK (ckI5 ++ (0 :: ckP4)))) (ckS c [iS 8 i, iS 9 0]) (some none) (ckT 1) := by
 have g4 := skipN_le (ck5B gl c i) (lenV (c.rv gl i)) 0
 exact sem_loop (E := enF gl) (w0 := base0 W) (nb := 0) (nl := 0) (n := 144) (c := (ckK (ckI5 ++ (0 :: ckP4)))) (x := some none) (s' := ckT 1) (fun z => ckS c [iS 8 i, iS 9 z]) (skipN (ck5B gl c i) (lenV (c.rv gl i)) 0) (by simp) (fun z hz => ck5_step gl c hc sc i hi z (by omega) (skipN_all (ck5B gl c i) (lenV (c.rv gl i)) 0 z (by omega) hz) W hG) (ck5_out gl c hc sc i hi _ (by omega) (skipN_hit (by omega)) W hG)
noncomputable def ck4B (gl : Gl) (c : Cn) (i : Nat) : Bool := (bif ((lenV (c.rv gl i) : Nat) : Int) == 0 then false else (bif decide ((i : Int) > 0) then (bif decide (raG gl c.r i <= raG gl c.r ((i : Int) - 1).toNat) then false else Nat.beq (skipN (ck5B gl c i) (lenV (c.rv gl i)) 0) (lenV (c.rv gl i))) else Nat.beq (skipN (ck5B gl c i) (lenV (c.rv gl i)) 0) (lenV (c.rv gl i))))
theorem ck4_tffy (gl : Gl) (c : Cn) (hc : CnOk gl c) (sc : CnSm gl c) (i : Nat) (hi : i < c.rn) (h1 : (((lenV (c.rv gl i) : Nat) : Int) == 0) = false) (h2 : (decide ((i : Int) > 0)) = false) (h : skipN (ck5B gl c i) (lenV (c.rv gl i)) 0 = lenV (c.rv gl i)) (W : World) (hG : GlobOk gl W) : S2.Sem (enF gl) W 144 (ckK ckP4) (ckS c [iS 8 i]) none (ckS c [iS 8 (i + 1)]) := by
 have s1 := sc.1
 have s2 := sc.2.1
 have s3 := sc.2.2.2 i hi
 have g2 := of_decide_eq_false h2
 refine sem_iterP (enF_ok gl) hG (fuel := 1000) (d := 30) (p := (ckQ [8])) [⟨ckI5, (ckQ [8, 9]), (some (some 8)), (ckS c [iS 8 i, iS 9 (lenV (c.rv gl i))])⟩] [true, false, false] [(pre (inI ((i : Int) + 1)), true), (decide ((i : Int) > 0), false), (((lenV (c.rv gl i) : Nat) : Int) == 0, false), (pre (rowB gl (c.rv gl i) (rfE gl (c.rv gl i))), true), (pre (rowB gl c.r (rwE gl c.r)), true), (pre (decide (i < c.rn)), true), (pre (rowB gl c.r (rwE gl c.r)), true), (pre (decide (i < c.rn)), true), (pre (rowB gl c.r (rwE gl c.r)), true), (pre (idxB ((i : Int)) c.rn), true), (decide ((i : Int) < (c.rn : Int)), true), (pre (rowB gl c.r (rwE gl c.r)), true)] [⟨.loop (ckK (ckI5 ++ (0 :: ckP4))), ckS c [iS 8 i, iS 9 0], (some (some 8)), (ckS c [iS 8 i, iS 9 (lenV (c.rv gl i))])⟩] (by kernel_rfl) (by kernel_rfl) ?_ (fun t ht => by obtain rfl := List.mem_singleton.mp ht; exact ck5_yes gl c hc sc i hi h W hG)
 refine qF ?_ ?_ ?_ ?_ <| qF ?_ ?_ ?_ ?_ <| qF ?_ ?_ ?_ ?_ <| qZ
 . exact ob_inI (by omega)
 . assumption
 . assumption
 . exact rowB_ok.mpr (by first | exact hc.hs | exact hc.rw | exact hc.rc _ (by omega) | exact hc.rf _ (by omega))
 . exact rowB_ok.mpr (by first | exact hc.hs | exact hc.rw | exact hc.rc _ (by omega) | exact hc.rf _ (by omega))
 . exact ob_lt (by omega)
 . exact rowB_ok.mpr (by first | exact hc.hs | exact hc.rw | exact hc.rc _ (by omega) | exact hc.rf _ (by omega))
 . exact ob_lt (by omega)
 . exact rowB_ok.mpr (by first | exact hc.hs | exact hc.rw | exact hc.rc _ (by omega) | exact hc.rf _ (by omega))
 . exact ob_idx (by omega)
 . exact ob_yes (by omega)
 . exact rowB_ok.mpr (by first | exact hc.hs | exact hc.rw | exact hc.rc _ (by omega) | exact hc.rf _ (by omega))
theorem ck4_tffn (gl : Gl) (c : Cn) (hc : CnOk gl c) (sc : CnSm gl c) (i : Nat) (hi : i < c.rn) (h1 : (((lenV (c.rv gl i) : Nat) : Int) == 0) = false) (h2 : (decide ((i : Int) > 0)) = false) (h : skipN (ck5B gl c i) (lenV (c.rv gl i)) 0 ≠ lenV (c.rv gl i)) (W : World) (hG : GlobOk gl W) : S2.Sem (enF gl) W 144 (ckK ckP4) (ckS c [iS 8 i]) (some none) (ckT 1) := by
 have s1 := sc.1
 have s2 := sc.2.1
 have s3 := sc.2.2.2 i hi
 have g2 := of_decide_eq_false h2
 refine sem_iterP (enF_ok gl) hG (fuel := 1000) (d := 30) (p := ckZ) [⟨ckI5, (ckQ [8, 9]), some none, ckT 1⟩] [true, false, false] [(decide ((i : Int) > 0), false), (((lenV (c.rv gl i) : Nat) : Int) == 0, false), (pre (rowB gl (c.rv gl i) (rfE gl (c.rv gl i))), true), (pre (rowB gl c.r (rwE gl c.r)), true), (pre (decide (i < c.rn)), true), (pre (rowB gl c.r (rwE gl c.r)), true), (pre (decide (i < c.rn)), true), (pre (rowB gl c.r (rwE gl c.r)), true), (pre (idxB ((i : Int)) c.rn), true), (decide ((i : Int) < (c.rn : Int)), true), (pre (rowB gl c.r (rwE gl c.r)), true)] [⟨.loop (ckK (ckI5 ++ (0 :: ckP4))), ckS c [iS 8 i, iS 9 0], some none, ckT 1⟩] (by kernel_rfl) (by kernel_rfl) ?_ (fun t ht => by obtain rfl := List.mem_singleton.mp ht; exact ck5_no gl c hc sc i hi h W hG)
 refine qF ?_ ?_ ?_ ?_ <| qF ?_ ?_ ?_ ?_ <| qA ?_ <| qA ?_ <| qA ?_ <| qZ
 . assumption
 . assumption
 . exact rowB_ok.mpr (by first | exact hc.hs | exact hc.rw | exact hc.rc _ (by omega) | exact hc.rf _ (by omega))
 . exact rowB_ok.mpr (by first | exact hc.hs | exact hc.rw | exact hc.rc _ (by omega) | exact hc.rf _ (by omega))
 . exact ob_lt (by omega)
 . exact rowB_ok.mpr (by first | exact hc.hs | exact hc.rw | exact hc.rc _ (by omega) | exact hc.rf _ (by omega))
 . exact ob_lt (by omega)
 . exact rowB_ok.mpr (by first | exact hc.hs | exact hc.rw | exact hc.rc _ (by omega) | exact hc.rf _ (by omega))
 . exact ob_idx (by omega)
 . exact ob_yes (by omega)
 . exact rowB_ok.mpr (by first | exact hc.hs | exact hc.rw | exact hc.rc _ (by omega) | exact hc.rf _ (by omega))
theorem ck4_tftfy (gl : Gl) (c : Cn) (hc : CnOk gl c) (sc : CnSm gl c) (i : Nat) (hi : i < c.rn) (h1 : (((lenV (c.rv gl i) : Nat) : Int) == 0) = false) (h2 : (decide ((i : Int) > 0)) = true) (h3 : (decide (raG gl c.r i <= raG gl c.r ((i : Int) - 1).toNat)) = false) (h : skipN (ck5B gl c i) (lenV (c.rv gl i)) 0 = lenV (c.rv gl i)) (W : World) (hG : GlobOk gl W) : S2.Sem (enF gl) W 144 (ckK ckP4) (ckS c [iS 8 i]) none (ckS c [iS 8 (i + 1)]) := by
 have s1 := sc.1
 have s2 := sc.2.1
 have s3 := sc.2.2.2 i hi
 have g2 := of_decide_eq_true h2
 have g3 := of_decide_eq_false h3
 refine sem_iterP (enF_ok gl) hG (fuel := 1000) (d := 30) (p := (ckQ [8])) [⟨ckI5, (ckQ [8, 9]), (some (some 8)), (ckS c [iS 8 i, iS 9 (lenV (c.rv gl i))])⟩] [true, false, true, false] [(pre (inI ((i : Int) + 1)), true), (decide (raG gl c.r i <= raG gl c.r ((i : Int) - 1).toNat), false), (pre (rowB gl c.r (rwE gl c.r)), true), (pre (decide (((i : Int) - 1).toNat < c.rn)), true), (pre (rowB gl c.r (rwE gl c.r)), true), (pre (decide (((i : Int) - 1).toNat < c.rn)), true), (pre (rowB gl c.r (rwE gl c.r)), true), (pre (idxB ((i : Int) - 1) c.rn), true), (pre (inI ((i : Int) - 1)), true), (pre (rowB gl c.r (rwE gl c.r)), true), (pre (decide (i < c.rn)), true), (pre (rowB gl c.r (rwE gl c.r)), true), (pre (decide (i < c.rn)), true), (pre (rowB gl c.r (rwE gl c.r)), true), (pre (idxB ((i : Int)) c.rn), true), (decide ((i : Int) > 0), true), (((lenV (c.rv gl i) : Nat) : Int) == 0, false), (pre (rowB gl (c.rv gl i) (rfE gl (c.rv gl i))), true), (pre (rowB gl c.r (rwE gl c.r)), true), (pre (decide (i < c.rn)), true), (pre (rowB gl c.r (rwE gl c.r)), true), (pre (decide (i < c.rn)), true), (pre (rowB gl c.r (rwE gl c.r)), true), (pre (idxB ((i : Int)) c.rn), true), (decide ((i : Int) < (c.rn : Int)), true), (pre (rowB gl c.r (rwE gl c.r)), true)] [⟨.loop (ckK (ckI5 ++ (0 :: ckP4))), ckS c [iS 8 i, iS 9 0], (some (some 8)), (ckS c [iS 8 i, iS 9 (lenV (c.rv gl i))])⟩] (by kernel_rfl) (by kernel_rfl) ?_ (fun t ht => by obtain rfl := List.mem_singleton.mp ht; exact ck5_yes gl c hc sc i hi h W hG)
 refine qF ?_ ?_ ?_ ?_ <| qF ?_ ?_ ?_ ?_ <| qF ?_ ?_ ?_ ?_ <| qF ?_ ?_ ?_ ?_ <| qF ?_ ?_ ?_ ?_ <| qF ?_ ?_ ?_ ?_ <| qA ?_ <| qA ?_ <| qZ
 . exact ob_inI (by omega)
 . assumption
 . exact rowB_ok.mpr (by first | exact hc.hs | exact hc.rw | exact hc.rc _ (by omega) | exact hc.rf _ (by omega))
 . exact ob_lt (by omega)
 . exact rowB_ok.mpr (by first | exact hc.hs | exact hc.rw | exact hc.rc _ (by omega) | exact hc.rf _ (by omega))
 . exact ob_lt (by omega)
 . exact rowB_ok.mpr (by first | exact hc.hs | exact hc.rw | exact hc.rc _ (by omega) | exact hc.rf _ (by omega))
 . exact ob_idx (by omega)
 . exact ob_inI (by omega)
 . exact rowB_ok.mpr (by first | exact hc.hs | exact hc.rw | exact hc.rc _ (by omega) | exact hc.rf _ (by omega))
 . exact ob_lt (by omega)
 . exact rowB_ok.mpr (by first | exact hc.hs | exact hc.rw | exact hc.rc _ (by omega) | exact hc.rf _ (by omega))
 . exact ob_lt (by omega)
 . exact rowB_ok.mpr (by first | exact hc.hs | exact hc.rw | exact hc.rc _ (by omega) | exact hc.rf _ (by omega))
 . exact ob_idx (by omega)
 . assumption
 . assumption
 . exact rowB_ok.mpr (by first | exact hc.hs | exact hc.rw | exact hc.rc _ (by omega) | exact hc.rf _ (by omega))
 . exact rowB_ok.mpr (by first | exact hc.hs | exact hc.rw | exact hc.rc _ (by omega) | exact hc.rf _ (by omega))
 . exact ob_lt (by omega)
 . exact rowB_ok.mpr (by first | exact hc.hs | exact hc.rw | exact hc.rc _ (by omega) | exact hc.rf _ (by omega))
 . exact ob_lt (by omega)
 . exact rowB_ok.mpr (by first | exact hc.hs | exact hc.rw | exact hc.rc _ (by omega) | exact hc.rf _ (by omega))
 . exact ob_idx (by omega)
 . exact ob_yes (by omega)
 . exact rowB_ok.mpr (by first | exact hc.hs | exact hc.rw | exact hc.rc _ (by omega) | exact hc.rf _ (by omega))
theorem ck4_tftfn (gl : Gl) (c : Cn) (hc : CnOk gl c) (sc : CnSm gl c) (i : Nat) (hi : i < c.rn) (h1 : (((lenV (c.rv gl i) : Nat) : Int) == 0) = false) (h2 : (decide ((i : Int) > 0)) = true) (h3 : (decide (raG gl c.r i <= raG gl c.r ((i : Int) - 1).toNat)) = false) (h : skipN (ck5B gl c i) (lenV (c.rv gl i)) 0 ≠ lenV (c.rv gl i)) (W : World) (hG : GlobOk gl W) : S2.Sem (enF gl) W 144 (ckK ckP4) (ckS c [iS 8 i]) (some none) (ckT 1) := by
 have s1 := sc.1
 have s2 := sc.2.1
 have s3 := sc.2.2.2 i hi
 have g2 := of_decide_eq_true h2
 have g3 := of_decide_eq_false h3
 refine sem_iterP (enF_ok gl) hG (fuel := 1000) (d := 30) (p := ckZ) [⟨ckI5, (ckQ [8, 9]), some none, ckT 1⟩] [true, false, true, false] [(decide (raG gl c.r i <= raG gl c.r ((i : Int) - 1).toNat), false), (pre (rowB gl c.r (rwE gl c.r)), true), (pre (decide (((i : Int) - 1).toNat < c.rn)), true), (pre (rowB gl c.r (rwE gl c.r)), true), (pre (decide (((i : Int) - 1).toNat < c.rn)), true), (pre (rowB gl c.r (rwE gl c.r)), true), (pre (idxB ((i : Int) - 1) c.rn), true), (pre (inI ((i : Int) - 1)), true), (pre (rowB gl c.r (rwE gl c.r)), true), (pre (decide (i < c.rn)), true), (pre (rowB gl c.r (rwE gl c.r)), true), (pre (decide (i < c.rn)), true), (pre (rowB gl c.r (rwE gl c.r)), true), (pre (idxB ((i : Int)) c.rn), true), (decide ((i : Int) > 0), true), (((lenV (c.rv gl i) : Nat) : Int) == 0, false), (pre (rowB gl (c.rv gl i) (rfE gl (c.rv gl i))), true), (pre (rowB gl c.r (rwE gl c.r)), true), (pre (decide (i < c.rn)), true), (pre (rowB gl c.r (rwE gl c.r)), true), (pre (decide (i < c.rn)), true), (pre (rowB gl c.r (rwE gl c.r)), true), (pre (idxB ((i : Int)) c.rn), true), (decide ((i : Int) < (c.rn : Int)), true), (pre (rowB gl c.r (rwE gl c.r)), true)] [⟨.loop (ckK (ckI5 ++ (0 :: ckP4))), ckS c [iS 8 i, iS 9 0], some none, ckT 1⟩] (by kernel_rfl) (by kernel_rfl) ?_ (fun t ht => by obtain rfl := List.mem_singleton.mp ht; exact ck5_no gl c hc sc i hi h W hG)
 refine qF ?_ ?_ ?_ ?_ <| qF ?_ ?_ ?_ ?_ <| qF ?_ ?_ ?_ ?_ <| qF ?_ ?_ ?_ ?_ <| qF ?_ ?_ ?_ ?_ <| qF ?_ ?_ ?_ ?_ <| qA ?_ <| qZ
 . assumption
 . exact rowB_ok.mpr (by first | exact hc.hs | exact hc.rw | exact hc.rc _ (by omega) | exact hc.rf _ (by omega))
 . exact ob_lt (by omega)
 . exact rowB_ok.mpr (by first | exact hc.hs | exact hc.rw | exact hc.rc _ (by omega) | exact hc.rf _ (by omega))
 . exact ob_lt (by omega)
 . exact rowB_ok.mpr (by first | exact hc.hs | exact hc.rw | exact hc.rc _ (by omega) | exact hc.rf _ (by omega))
 . exact ob_idx (by omega)
 . exact ob_inI (by omega)
 . exact rowB_ok.mpr (by first | exact hc.hs | exact hc.rw | exact hc.rc _ (by omega) | exact hc.rf _ (by omega))
 . exact ob_lt (by omega)
 . exact rowB_ok.mpr (by first | exact hc.hs | exact hc.rw | exact hc.rc _ (by omega) | exact hc.rf _ (by omega))
 . exact ob_lt (by omega)
 . exact rowB_ok.mpr (by first | exact hc.hs | exact hc.rw | exact hc.rc _ (by omega) | exact hc.rf _ (by omega))
 . exact ob_idx (by omega)
 . assumption
 . assumption
 . exact rowB_ok.mpr (by first | exact hc.hs | exact hc.rw | exact hc.rc _ (by omega) | exact hc.rf _ (by omega))
 . exact rowB_ok.mpr (by first | exact hc.hs | exact hc.rw | exact hc.rc _ (by omega) | exact hc.rf _ (by omega))
 . exact ob_lt (by omega)
 . exact rowB_ok.mpr (by first | exact hc.hs | exact hc.rw | exact hc.rc _ (by omega) | exact hc.rf _ (by omega))
 . exact ob_lt (by omega)
 . exact rowB_ok.mpr (by first | exact hc.hs | exact hc.rw | exact hc.rc _ (by omega) | exact hc.rf _ (by omega))
 . exact ob_idx (by omega)
 . exact ob_yes (by omega)
 . exact rowB_ok.mpr (by first | exact hc.hs | exact hc.rw | exact hc.rc _ (by omega) | exact hc.rf _ (by omega))
theorem ck4_tftt (gl : Gl) (c : Cn) (hc : CnOk gl c) (sc : CnSm gl c) (i : Nat) (hi : i < c.rn) (h1 : (((lenV (c.rv gl i) : Nat) : Int) == 0) = false) (h2 : (decide ((i : Int) > 0)) = true) (h3 : (decide (raG gl c.r i <= raG gl c.r ((i : Int) - 1).toNat)) = true) (W : World) (hG : GlobOk gl W) : S2.Sem (enF gl) W 144 (ckK ckP4) (ckS c [iS 8 i]) (some none) (ckT 1) := by
 have s1 := sc.1
 have s2 := sc.2.1
 have s3 := sc.2.2.2 i hi
 have g2 := of_decide_eq_true h2
 have g3 := of_decide_eq_true h3
 refine sem_iter (enF_ok gl) hG (p := ckZ) (fuel := 1000) [true, false, true, true] [(decide (raG gl c.r i <= raG gl c.r ((i : Int) - 1).toNat), true), (pre (rowB gl c.r (rwE gl c.r)), true), (pre (decide (((i : Int) - 1).toNat < c.rn)), true), (pre (rowB gl c.r (rwE gl c.r)), true), (pre (decide (((i : Int) - 1).toNat < c.rn)), true), (pre (rowB gl c.r (rwE gl c.r)), true), (pre (idxB ((i : Int) - 1) c.rn), true), (pre (inI ((i : Int) - 1)), true), (pre (rowB gl c.r (rwE gl c.r)), true), (pre (decide (i < c.rn)), true), (pre (rowB gl c.r (rwE gl c.r)), true), (pre (decide (i < c.rn)), true), (pre (rowB gl c.r (rwE gl c.r)), true), (pre (idxB ((i : Int)) c.rn), true), (decide ((i : Int) > 0), true), (((lenV (c.rv gl i) : Nat) : Int) == 0, false), (pre (rowB gl (c.rv gl i) (rfE gl (c.rv gl i))), true), (pre (rowB gl c.r (rwE gl c.r)), true), (pre (decide (i < c.rn)), true), (pre (rowB gl c.r (rwE gl c.r)), true), (pre (decide (i < c.rn)), true), (pre (rowB gl c.r (rwE gl c.r)), true), (pre (idxB ((i : Int)) c.rn), true), (decide ((i : Int) < (c.rn : Int)), true), (pre (rowB gl c.r (rwE gl c.r)), true)] (by kernel_rfl) (by kernel_rfl) ?_
 refine qF ?_ ?_ ?_ ?_ <| qF ?_ ?_ ?_ ?_ <| qF ?_ ?_ ?_ ?_ <| qF ?_ ?_ ?_ ?_ <| qF ?_ ?_ ?_ ?_ <| qF ?_ ?_ ?_ ?_ <| qA ?_ <| qZ
 . assumption
 . exact rowB_ok.mpr (by first | exact hc.hs | exact hc.rw | exact hc.rc _ (by omega) | exact hc.rf _ (by omega))
 . exact ob_lt (by omega)
 . exact rowB_ok.mpr (by first | exact hc.hs | exact hc.rw | exact hc.rc _ (by omega) | exact hc.rf _ (by omega))
 . exact ob_lt (by omega)
 . exact rowB_ok.mpr (by first | exact hc.hs | exact hc.rw | exact hc.rc _ (by omega) | exact hc.rf _ (by omega))
 . exact ob_idx (by omega)
 . exact ob_inI (by omega)
 . exact rowB_ok.mpr (by first | exact hc.hs | exact hc.rw | exact hc.rc _ (by omega) | exact hc.rf _ (by omega))
 . exact ob_lt (by omega)
 . exact rowB_ok.mpr (by first | exact hc.hs | exact hc.rw | exact hc.rc _ (by omega) | exact hc.rf _ (by omega))
 . exact ob_lt (by omega)
 . exact rowB_ok.mpr (by first | exact hc.hs | exact hc.rw | exact hc.rc _ (by omega) | exact hc.rf _ (by omega))
 . exact ob_idx (by omega)
 . assumption
 . assumption
 . exact rowB_ok.mpr (by first | exact hc.hs | exact hc.rw | exact hc.rc _ (by omega) | exact hc.rf _ (by omega))
 . exact rowB_ok.mpr (by first | exact hc.hs | exact hc.rw | exact hc.rc _ (by omega) | exact hc.rf _ (by omega))
 . exact ob_lt (by omega)
 . exact rowB_ok.mpr (by first | exact hc.hs | exact hc.rw | exact hc.rc _ (by omega) | exact hc.rf _ (by omega))
 . exact ob_lt (by omega)
 . exact rowB_ok.mpr (by first | exact hc.hs | exact hc.rw | exact hc.rc _ (by omega) | exact hc.rf _ (by omega))
 . exact ob_idx (by omega)
 . exact ob_yes (by omega)
 . exact rowB_ok.mpr (by first | exact hc.hs | exact hc.rw | exact hc.rc _ (by omega) | exact hc.rf _ (by omega))
theorem ck4_tt (gl : Gl) (c : Cn) (hc : CnOk gl c) (sc : CnSm gl c) (i : Nat) (hi : i < c.rn) (h1 : (((lenV (c.rv gl i) : Nat) : Int) == 0) = true) (W : World) (hG : GlobOk gl W) : S2.Sem (enF gl) W 144 (ckK ckP4) (ckS c [iS 8 i]) (some none) (ckT 1) := by
 have s1 := sc.1
 have s2 := sc.2.1
 have s3 := sc.2.2.2 i hi
 refine sem_iter (enF_ok gl) hG (p := ckZ) (fuel := 1000) [true, true] [(((lenV (c.rv gl i) : Nat) : Int) == 0, true), (pre (rowB gl (c.rv gl i) (rfE gl (c.rv gl i))), true), (pre (rowB gl c.r (rwE gl c.r)), true), (pre (decide (i < c.rn)), true), (pre (rowB gl c.r (rwE gl c.r)), true), (pre (decide (i < c.rn)), true), (pre (rowB gl c.r (rwE gl c.r)), true), (pre (idxB ((i : Int)) c.rn), true), (decide ((i : Int) < (c.rn : Int)), true), (pre (rowB gl c.r (rwE gl c.r)), true)] (by kernel_rfl) (by kernel_rfl) ?_
 refine qF ?_ ?_ ?_ ?_ <| qF ?_ ?_ ?_ ?_ <| qA ?_ <| qA ?_ <| qZ
 . assumption
 . exact rowB_ok.mpr (by first | exact hc.hs | exact hc.rw | exact hc.rc _ (by omega) | exact hc.rf _ (by omega))
 . exact rowB_ok.mpr (by first | exact hc.hs | exact hc.rw | exact hc.rc _ (by omega) | exact hc.rf _ (by omega))
 . exact ob_lt (by omega)
 . exact rowB_ok.mpr (by first | exact hc.hs | exact hc.rw | exact hc.rc _ (by omega) | exact hc.rf _ (by omega))
 . exact ob_lt (by omega)
 . exact rowB_ok.mpr (by first | exact hc.hs | exact hc.rw | exact hc.rc _ (by omega) | exact hc.rf _ (by omega))
 . exact ob_idx (by omega)
 . exact ob_yes (by omega)
 . exact rowB_ok.mpr (by first | exact hc.hs | exact hc.rw | exact hc.rc _ (by omega) | exact hc.rf _ (by omega))
theorem ck4_step (gl : Gl) (c : Cn) (hc : CnOk gl c) (sc : CnSm gl c) (i : Nat) (hi : i < c.rn) (h : ck4B gl c i = true) (W : World) (hG : GlobOk gl W) : S2.Sem (enF gl) W 144 (ckK ckP4) (ckS c [iS 8 i]) none (ckS c [iS 8 (i + 1)]) := by
 cases h1 : (((lenV (c.rv gl i) : Nat) : Int) == 0)
 case' false =>
   cases h2 : (decide ((i : Int) > 0))
   case' false =>
     unfold ck4B at h; rw [h1, h2] at h; exact ck4_tffy gl c hc sc i hi h1 h2 (qB h) W hG
   case' true =>
     cases h3 : (decide (raG gl c.r i <= raG gl c.r ((i : Int) - 1).toNat))
     case' false =>
       unfold ck4B at h; rw [h1, h2, h3] at h; exact ck4_tftfy gl c hc sc i hi h1 h2 h3 (qB h) W hG
     case' true =>
       exfalso; unfold ck4B at h; rw [h1, h2, h3] at h; first | (cases h; done) | simp at h
 case' true =>
   exfalso; unfold ck4B at h; rw [h1] at h; first | (cases h; done) | simp at h
theorem ck4_out (gl : Gl) (c : Cn) (hc : CnOk gl c) (sc : CnSm gl c) (i : Nat) (hi : i < c.rn) (h : ck4B gl c i = false) (W : World) (hG : GlobOk gl W) : S2.Sem (enF gl) W 144 (ckK ckP4) (ckS c [iS 8 i]) (some none) (ckT 1) := by
 cases h1 : (((lenV (c.rv gl i) : Nat) : Int) == 0)
 case' false =>
   cases h2 : (decide ((i : Int) > 0))
   case' false =>
     unfold ck4B at h; rw [h1, h2] at h; exact ck4_tffn gl c hc sc i hi h1 h2 (fun hh => by rw [hh] at h; simp at h) W hG
   case' true =>
     cases h3 : (decide (raG gl c.r i <= raG gl c.r ((i : Int) - 1).toNat))
     case' false =>
       unfold ck4B at h; rw [h1, h2, h3] at h; exact ck4_tftfn gl c hc sc i hi h1 h2 h3 (fun hh => by rw [hh] at h; simp at h) W hG
     case' true =>
       exact ck4_tftt gl c hc sc i hi h1 h2 h3 W hG
 case' true =>
   exact ck4_tt gl c hc sc i hi h1 W hG
theorem ck4_end (gl : Gl) (c : Cn) (hc : CnOk gl c) (sc : CnSm gl c) (W : World) (hG : GlobOk gl W) : S2.Sem (enF gl) W 144 (ckK ckP4) (ckS c [iS 8 c.rn]) (some (some 6)) (ckS c [iS 8 c.rn]) := by
 refine sem_iter (enF_ok gl) hG (p := (ckQ [8])) (fuel := 1000) [false] [(decide (((c.rn : Nat) : Int) < (c.rn : Int)), false), (pre (rowB gl c.r (rwE gl c.r)), true)] (by kernel_rfl) (by kernel_rfl) ?_
 refine qA ?_ <| qA ?_ <| qZ
 . exact ob_no (by omega)
 . exact rowB_ok.mpr (by first | exact hc.hs | exact hc.rw | exact hc.rc _ (by omega) | exact hc.rf _ (by omega))
theorem ck4_yes (gl : Gl) (c : Cn) (hc : CnOk gl c) (sc : CnSm gl c) (h : skipN (ck4B gl c) (c.rn) 0 = c.rn) (W : World) (hG : GlobOk gl W) : S2.Sem (enF gl) W 144 (.loop (ckK ckP4)) (ckS c [iS 8 0]) (some (some 6)) (ckS c [iS 8 c.rn]) :=
 sem_loop (E := enF gl) (w0 := base0 W) (nb := 0) (nl := 0) (n := 144) (c := (ckK ckP4)) (x := (some (some 6))) (s' := ckS c [iS 8 c.rn]) (fun z => ckS c [iS 8 z]) (c.rn) (by simp) (fun z hz => ck4_step gl c hc sc z hz (skipN_all (ck4B gl c) (c.rn) 0 z (by omega) (by omega)) W hG) (ck4_end gl c hc sc W hG)
theorem ck4_no (gl : Gl) (c : Cn) (hc : CnOk gl c) (sc : CnSm gl c) (h : skipN (ck4B gl c) (c.rn) 0 ≠ c.rn) (W : World) (hG : GlobOk gl W) : S2.Sem (enF gl) W 144 (.loop (ckK ckP4)) (ckS c [iS 8 0]) (some none) (ckT 1) := by
 have g4 := skipN_le (ck4B gl c) (c.rn) 0
 exact sem_loop (E := enF gl) (w0 := base0 W) (nb := 0) (nl := 0) (n := 144) (c := (ckK ckP4)) (x := some none) (s' := ckT 1) (fun z => ckS c [iS 8 z]) (skipN (ck4B gl c) (c.rn) 0) (by simp) (fun z hz => ck4_step gl c hc sc z (by omega) (skipN_all (ck4B gl c) (c.rn) 0 z (by omega) hz) W hG) (ck4_out gl c hc sc _ (by omega) (skipN_hit (by omega)) W hG)
end Go.Proofs.Ytmaffamhjmlonaa
