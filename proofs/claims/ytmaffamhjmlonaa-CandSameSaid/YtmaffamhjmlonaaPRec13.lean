/- Layer 13: package cand: the records of a candidate. -/
import Derived.Test.YtmaffamhjmlonaaPExi13
import Derived.Test.YtmaffamhjmlonaaK06
set_option linter.unusedVariables false
set_option linter.unusedSimpArgs false
namespace Go.Proofs.Ytmaffamhjmlonaa
open Go.RowKit Sim S2
def rcP : List Nat := [0, 1, 0, 1]
def rcI : List Nat := [0, 1, 1, 0, 0, 1, 1]
noncomputable def rcK (p : List Nat) : Code := codeAt (codeOf Try.prog 24) (0 :: p)
def rcH (c : Cn) (i : Nat) : List (Nat × S2.SV) := [(1, .inr (0, 0, none)), (9, .inl ([true], .slice c.ha c.hn c.hc)), (10, .inl ([true], .int .i64 c.hn)), (11, .inl ([true], .int .i64 i))]
noncomputable def rcS (gl : Gl) (c : Cn) (i : Nat) (l : List (Nat × S2.SV)) : S2.St := { tmps := rcH c i ++ l, own := ⟨[cnB c], []⟩, lo := 0, llo := 0, mem := true, orc := [], obl := [] }
noncomputable def rcL (gl : Gl) (c : Cn) (i k : Nat) : List (Nat × S2.SV) := [(15, .inl ([true], slG gl (.slice c.ha c.hn c.hc) 1 0 i)), (16, .inl ([true], .int .i64 (lenV (c.hv gl i) : Nat))), (17, .inl ([true], .int .i64 k))]
def rcQ (l : List Nat) : Pick := { ts := [1, 9, 10, 11] ++ l, bs := [0], ls := [], opn := [11, 17] }
def rcZ : Pick := { ts := [2], bs := [], ls := [] }
def rcT : S2.St := { tmps := [(2, .inl ([], .bool false))], own := ⟨[], []⟩, lo := 0, llo := 0, mem := true, orc := [], obl := [] }
noncomputable def enX (gl : Gl) : S2.Env := enD gl noT (pExists gl) noL
theorem enX_ok (gl : Gl) : CallOk (enX gl) := enD_ok (.none _ _) pExists_ok (.none _ _)
noncomputable def rc3B (gl : Gl) (c : Cn) (i k : Nat) : Bool := (bif (rcG gl (c.hv gl i) k).wt then (bif (rcG gl (c.hv gl i) k).fl then false else (bif !((rcG gl (c.hv gl i) k).sh == -1 && ((rcG gl (c.hv gl i) k).sa == 0 && true)) then (bif !thZ gl c (rcG gl (c.hv gl i) k).sh (rcG gl (c.hv gl i) k).sa then false else true) else true)) else (bif !((rcG gl (c.hv gl i) k).sh == -1 && ((rcG gl (c.hv gl i) k).sa == 0 && true)) then (bif !thZ gl c (rcG gl (c.hv gl i) k).sh (rcG gl (c.hv gl i) k).sa then false else true) else true))
theorem ri_tff (gl : Gl) (c : Cn) (hc : CnOk gl c) (sc : CnSm gl c) (i : Nat) (hi : i < c.hn) (k : Nat) (hk : k < lenV (c.hv gl i)) (h1 : ((rcG gl (c.hv gl i) k).wt) = false) (h2 : (!((rcG gl (c.hv gl i) k).sh == -1 && ((rcG gl (c.hv gl i) k).sa == 0 && true))) = false) (W : World) (hG : GlobOk gl W) : S2.Sem (enX gl) W 44 (rcK (rcI ++ (0 :: rcP))) (rcS gl c i (rcL gl c i k)) none (rcS gl c i (rcL gl c i (k + 1))) := by
 have s1 := sc.1
 have s2 := sc.2.1
 have s3 := sc.2.2.1 i hi
 refine sem_iter (enX_ok gl) hG (p := (rcQ [15, 16, 17])) (fuel := 1000) [true, false, false] [(pre (inI ((k : Int) + 1)), true), (!((rcG gl (c.hv gl i) k).sh == -1 && ((rcG gl (c.hv gl i) k).sa == 0 && true)), false), ((rcG gl (c.hv gl i) k).wt, false), (pre (rowB gl (c.hv gl i) (rcE gl (c.hv gl i))), true), (pre (decide (k < (lenV (c.hv gl i)))), true), (pre (rowB gl (c.hv gl i) (rcE gl (c.hv gl i))), true), (pre (idxB ((k : Int)) (lenV (c.hv gl i))), true), (decide ((k : Int) < ((lenV (c.hv gl i) : Nat) : Int)), true)] (by kernel_rfl) (by kernel_rfl) ?_
 refine qF ?_ ?_ ?_ ?_ <| qF ?_ ?_ ?_ ?_ <| qZ
 . exact ob_inI (by omega)
 . assumption
 . assumption
 . exact rowB_ok.mpr (by first | exact hc.hs | exact hc.rw | exact hc.rc _ (by omega) | exact hc.rf _ (by omega))
 . exact ob_lt (by omega)
 . exact rowB_ok.mpr (by first | exact hc.hs | exact hc.rw | exact hc.rc _ (by omega) | exact hc.rf _ (by omega))
 . exact ob_idx (by omega)
 . exact ob_yes (by omega)
theorem ri_tftf (gl : Gl) (c : Cn) (hc : CnOk gl c) (sc : CnSm gl c) (i : Nat) (hi : i < c.hn) (k : Nat) (hk : k < lenV (c.hv gl i)) (h1 : ((rcG gl (c.hv gl i) k).wt) = false) (h2 : (!((rcG gl (c.hv gl i) k).sh == -1 && ((rcG gl (c.hv gl i) k).sa == 0 && true))) = true) (h3 : (!thZ gl c (rcG gl (c.hv gl i) k).sh (rcG gl (c.hv gl i) k).sa) = false) (W : World) (hG : GlobOk gl W) : S2.Sem (enX gl) W 44 (rcK (rcI ++ (0 :: rcP))) (rcS gl c i (rcL gl c i k)) none (rcS gl c i (rcL gl c i (k + 1))) := by
 have s1 := sc.1
 have s2 := sc.2.1
 have s3 := sc.2.2.1 i hi
 refine sem_iter (enX_ok gl) hG (p := (rcQ [15, 16, 17])) (fuel := 1000) [true, false, true, false] [(pre (inI ((k : Int) + 1)), true), (!thZ gl c (rcG gl (c.hv gl i) k).sh (rcG gl (c.hv gl i) k).sa, false), (pre (okC gl (c, (rcG gl (c.hv gl i) k).sh, (rcG gl (c.hv gl i) k).sa).fst), true), (!((rcG gl (c.hv gl i) k).sh == -1 && ((rcG gl (c.hv gl i) k).sa == 0 && true)), true), ((rcG gl (c.hv gl i) k).wt, false), (pre (rowB gl (c.hv gl i) (rcE gl (c.hv gl i))), true), (pre (decide (k < (lenV (c.hv gl i)))), true), (pre (rowB gl (c.hv gl i) (rcE gl (c.hv gl i))), true), (pre (idxB ((k : Int)) (lenV (c.hv gl i))), true), (decide ((k : Int) < ((lenV (c.hv gl i) : Nat) : Int)), true)] (by kernel_rfl) (by kernel_rfl) ?_
 refine qF ?_ ?_ ?_ ?_ <| qF ?_ ?_ ?_ ?_ <| qA ?_ <| qA ?_ <| qZ
 . exact ob_inI (by omega)
 . assumption
 . exact propB_ok.mpr hc
 . assumption
 . assumption
 . exact rowB_ok.mpr (by first | exact hc.hs | exact hc.rw | exact hc.rc _ (by omega) | exact hc.rf _ (by omega))
 . exact ob_lt (by omega)
 . exact rowB_ok.mpr (by first | exact hc.hs | exact hc.rw | exact hc.rc _ (by omega) | exact hc.rf _ (by omega))
 . exact ob_idx (by omega)
 . exact ob_yes (by omega)
theorem ri_tftt (gl : Gl) (c : Cn) (hc : CnOk gl c) (sc : CnSm gl c) (i : Nat) (hi : i < c.hn) (k : Nat) (hk : k < lenV (c.hv gl i)) (h1 : ((rcG gl (c.hv gl i) k).wt) = false) (h2 : (!((rcG gl (c.hv gl i) k).sh == -1 && ((rcG gl (c.hv gl i) k).sa == 0 && true))) = true) (h3 : (!thZ gl c (rcG gl (c.hv gl i) k).sh (rcG gl (c.hv gl i) k).sa) = true) (W : World) (hG : GlobOk gl W) : S2.Sem (enX gl) W 44 (rcK (rcI ++ (0 :: rcP))) (rcS gl c i (rcL gl c i k)) (some none) (rcT) := by
 have s1 := sc.1
 have s2 := sc.2.1
 have s3 := sc.2.2.1 i hi
 refine sem_iter (enX_ok gl) hG (p := rcZ) (fuel := 1000) [true, false, true, true] [(!thZ gl c (rcG gl (c.hv gl i) k).sh (rcG gl (c.hv gl i) k).sa, true), (pre (okC gl (c, (rcG gl (c.hv gl i) k).sh, (rcG gl (c.hv gl i) k).sa).fst), true), (!((rcG gl (c.hv gl i) k).sh == -1 && ((rcG gl (c.hv gl i) k).sa == 0 && true)), true), ((rcG gl (c.hv gl i) k).wt, false), (pre (rowB gl (c.hv gl i) (rcE gl (c.hv gl i))), true), (pre (decide (k < (lenV (c.hv gl i)))), true), (pre (rowB gl (c.hv gl i) (rcE gl (c.hv gl i))), true), (pre (idxB ((k : Int)) (lenV (c.hv gl i))), true), (decide ((k : Int) < ((lenV (c.hv gl i) : Nat) : Int)), true)] (by kernel_rfl) (by kernel_rfl) ?_
 refine qF ?_ ?_ ?_ ?_ <| qF ?_ ?_ ?_ ?_ <| qA ?_ <| qZ
 . assumption
 . exact propB_ok.mpr hc
 . assumption
 . assumption
 . exact rowB_ok.mpr (by first | exact hc.hs | exact hc.rw | exact hc.rc _ (by omega) | exact hc.rf _ (by omega))
 . exact ob_lt (by omega)
 . exact rowB_ok.mpr (by first | exact hc.hs | exact hc.rw | exact hc.rc _ (by omega) | exact hc.rf _ (by omega))
 . exact ob_idx (by omega)
 . exact ob_yes (by omega)
theorem ri_ttff (gl : Gl) (c : Cn) (hc : CnOk gl c) (sc : CnSm gl c) (i : Nat) (hi : i < c.hn) (k : Nat) (hk : k < lenV (c.hv gl i)) (h1 : ((rcG gl (c.hv gl i) k).wt) = true) (h2 : ((rcG gl (c.hv gl i) k).fl) = false) (h3 : (!((rcG gl (c.hv gl i) k).sh == -1 && ((rcG gl (c.hv gl i) k).sa == 0 && true))) = false) (W : World) (hG : GlobOk gl W) : S2.Sem (enX gl) W 44 (rcK (rcI ++ (0 :: rcP))) (rcS gl c i (rcL gl c i k)) none (rcS gl c i (rcL gl c i (k + 1))) := by
 have s1 := sc.1
 have s2 := sc.2.1
 have s3 := sc.2.2.1 i hi
 refine sem_iter (enX_ok gl) hG (p := (rcQ [15, 16, 17])) (fuel := 1000) [true, true, false, false] [(pre (inI ((k : Int) + 1)), true), (!((rcG gl (c.hv gl i) k).sh == -1 && ((rcG gl (c.hv gl i) k).sa == 0 && true)), false), ((rcG gl (c.hv gl i) k).fl, false), ((rcG gl (c.hv gl i) k).wt, true), (pre (rowB gl (c.hv gl i) (rcE gl (c.hv gl i))), true), (pre (decide (k < (lenV (c.hv gl i)))), true), (pre (rowB gl (c.hv gl i) (rcE gl (c.hv gl i))), true), (pre (idxB ((k : Int)) (lenV (c.hv gl i))), true), (decide ((k : Int) < ((lenV (c.hv gl i) : Nat) : Int)), true)] (by kernel_rfl) (by kernel_rfl) ?_
 refine qF ?_ ?_ ?_ ?_ <| qF ?_ ?_ ?_ ?_ <| qA ?_ <| qZ
 . exact ob_inI (by omega)
 . assumption
 . assumption
 . assumption
 . exact rowB_ok.mpr (by first | exact hc.hs | exact hc.rw | exact hc.rc _ (by omega) | exact hc.rf _ (by omega))
 . exact ob_lt (by omega)
 . exact rowB_ok.mpr (by first | exact hc.hs | exact hc.rw | exact hc.rc _ (by omega) | exact hc.rf _ (by omega))
 . exact ob_idx (by omega)
 . exact ob_yes (by omega)
theorem ri_ttftf (gl : Gl) (c : Cn) (hc : CnOk gl c) (sc : CnSm gl c) (i : Nat) (hi : i < c.hn) (k : Nat) (hk : k < lenV (c.hv gl i)) (h1 : ((rcG gl (c.hv gl i) k).wt) = true) (h2 : ((rcG gl (c.hv gl i) k).fl) = false) (h3 : (!((rcG gl (c.hv gl i) k).sh == -1 && ((rcG gl (c.hv gl i) k).sa == 0 && true))) = true) (h4 : (!thZ gl c (rcG gl (c.hv gl i) k).sh (rcG gl (c.hv gl i) k).sa) = false) (W : World) (hG : GlobOk gl W) : S2.Sem (enX gl) W 44 (rcK (rcI ++ (0 :: rcP))) (rcS gl c i (rcL gl c i k)) none (rcS gl c i (rcL gl c i (k + 1))) := by
 have s1 := sc.1
 have s2 := sc.2.1
 have s3 := sc.2.2.1 i hi
 refine sem_iter (enX_ok gl) hG (p := (rcQ [15, 16, 17])) (fuel := 1000) [true, true, false, true, false] [(pre (inI ((k : Int) + 1)), true), (!thZ gl c (rcG gl (c.hv gl i) k).sh (rcG gl (c.hv gl i) k).sa, false), (pre (okC gl (c, (rcG gl (c.hv gl i) k).sh, (rcG gl (c.hv gl i) k).sa).fst), true), (!((rcG gl (c.hv gl i) k).sh == -1 && ((rcG gl (c.hv gl i) k).sa == 0 && true)), true), ((rcG gl (c.hv gl i) k).fl, false), ((rcG gl (c.hv gl i) k).wt, true), (pre (rowB gl (c.hv gl i) (rcE gl (c.hv gl i))), true), (pre (decide (k < (lenV (c.hv gl i)))), true), (pre (rowB gl (c.hv gl i) (rcE gl (c.hv gl i))), true), (pre (idxB ((k : Int)) (lenV (c.hv gl i))), true), (decide ((k : Int) < ((lenV (c.hv gl i) : Nat) : Int)), true)] (by kernel_rfl) (by kernel_rfl) ?_
 refine qF ?_ ?_ ?_ ?_ <| qF ?_ ?_ ?_ ?_ <| qA ?_ <| qA ?_ <| qA ?_ <| qZ
 . exact ob_inI (by omega)
 . assumption
 . exact propB_ok.mpr hc
 . assumption
 . assumption
 . assumption
 . exact rowB_ok.mpr (by first | exact hc.hs | exact hc.rw | exact hc.rc _ (by omega) | exact hc.rf _ (by omega))
 . exact ob_lt (by omega)
 . exact rowB_ok.mpr (by first | exact hc.hs | exact hc.rw | exact hc.rc _ (by omega) | exact hc.rf _ (by omega))
 . exact ob_idx (by omega)
 . exact ob_yes (by omega)
theorem ri_ttftt (gl : Gl) (c : Cn) (hc : CnOk gl c) (sc : CnSm gl c) (i : Nat) (hi : i < c.hn) (k : Nat) (hk : k < lenV (c.hv gl i)) (h1 : ((rcG gl (c.hv gl i) k).wt) = true) (h2 : ((rcG gl (c.hv gl i) k).fl) = false) (h3 : (!((rcG gl (c.hv gl i) k).sh == -1 && ((rcG gl (c.hv gl i) k).sa == 0 && true))) = true) (h4 : (!thZ gl c (rcG gl (c.hv gl i) k).sh (rcG gl (c.hv gl i) k).sa) = true) (W : World) (hG : GlobOk gl W) : S2.Sem (enX gl) W 44 (rcK (rcI ++ (0 :: rcP))) (rcS gl c i (rcL gl c i k)) (some none) (rcT) := by
 have s1 := sc.1
 have s2 := sc.2.1
 have s3 := sc.2.2.1 i hi
 refine sem_iter (enX_ok gl) hG (p := rcZ) (fuel := 1000) [true, true, false, true, true] [(!thZ gl c (rcG gl (c.hv gl i) k).sh (rcG gl (c.hv gl i) k).sa, true), (pre (okC gl (c, (rcG gl (c.hv gl i) k).sh, (rcG gl (c.hv gl i) k).sa).fst), true), (!((rcG gl (c.hv gl i) k).sh == -1 && ((rcG gl (c.hv gl i) k).sa == 0 && true)), true), ((rcG gl (c.hv gl i) k).fl, false), ((rcG gl (c.hv gl i) k).wt, true), (pre (rowB gl (c.hv gl i) (rcE gl (c.hv gl i))), true), (pre (decide (k < (lenV (c.hv gl i)))), true), (pre (rowB gl (c.hv gl i) (rcE gl (c.hv gl i))), true), (pre (idxB ((k : Int)) (lenV (c.hv gl i))), true), (decide ((k : Int) < ((lenV (c.hv gl i) : Nat) : Int)), true)] (by kernel_rfl) (by kernel_rfl) ?_
 refine qF ?_ ?_ ?_ ?_ <| qF ?_ ?_ ?_ ?_ <| qA ?_ <| qA ?_ <| qZ
 . assumption
 . exact propB_ok.mpr hc
 . assumption
 . assumption
 . assumption
 . exact rowB_ok.mpr (by first | exact hc.hs | exact hc.rw | exact hc.rc _ (by omega) | exact hc.rf _ (by omega))
 . exact ob_lt (by omega)
 . exact rowB_ok.mpr (by first | exact hc.hs | exact hc.rw | exact hc.rc _ (by omega) | exact hc.rf _ (by omega))
 . exact ob_idx (by omega)
 . exact ob_yes (by omega)
theorem ri_ttt (gl : Gl) (c : Cn) (hc : CnOk gl c) (sc : CnSm gl c) (i : Nat) (hi : i < c.hn) (k : Nat) (hk : k < lenV (c.hv gl i)) (h1 : ((rcG gl (c.hv gl i) k).wt) = true) (h2 : ((rcG gl (c.hv gl i) k).fl) = true) (W : World) (hG : GlobOk gl W) : S2.Sem (enX gl) W 44 (rcK (rcI ++ (0 :: rcP))) (rcS gl c i (rcL gl c i k)) (some none) (rcT) := by
 have s1 := sc.1
 have s2 := sc.2.1
 have s3 := sc.2.2.1 i hi
 refine sem_iter (enX_ok gl) hG (p := rcZ) (fuel := 1000) [true, true, true] [((rcG gl (c.hv gl i) k).fl, true), ((rcG gl (c.hv gl i) k).wt, true), (pre (rowB gl (c.hv gl i) (rcE gl (c.hv gl i))), true), (pre (decide (k < (lenV (c.hv gl i)))), true), (pre (rowB gl (c.hv gl i) (rcE gl (c.hv gl i))), true), (pre (idxB ((k : Int)) (lenV (c.hv gl i))), true), (decide ((k : Int) < ((lenV (c.hv gl i) : Nat) : Int)), true)] (by kernel_rfl) (by kernel_rfl) ?_
 refine qF ?_ ?_ ?_ ?_ <| qA ?_ <| qA ?_ <| qA ?_ <| qZ
 . assumption
 . assumption
 . exact rowB_ok.mpr (by first | exact hc.hs | exact hc.rw | exact hc.rc _ (by omega) | exact hc.rf _ (by omega))
 . exact ob_lt (by omega)
 . exact rowB_ok.mpr (by first | exact hc.hs | exact hc.rw | exact hc.rc _ (by omega) | exact hc.rf _ (by omega))
 . exact ob_idx (by omega)
 . exact ob_yes (by omega)
theorem ri_step (gl : Gl) (c : Cn) (hc : CnOk gl c) (sc : CnSm gl c) (i : Nat) (hi : i < c.hn) (k : Nat) (hk : k < lenV (c.hv gl i)) (h : rc3B gl c i k = true) (W : World) (hG : GlobOk gl W) : S2.Sem (enX gl) W 44 (rcK (rcI ++ (0 :: rcP))) (rcS gl c i (rcL gl c i k)) none (rcS gl c i (rcL gl c i (k + 1))) := by
 cases h1 : ((rcG gl (c.hv gl i) k).wt)
 case' false =>
   cases h2 : (!((rcG gl (c.hv gl i) k).sh == -1 && ((rcG gl (c.hv gl i) k).sa == 0 && true)))
   case' false =>
     exact ri_tff gl c hc sc i hi k hk h1 h2 W hG
   case' true =>
     cases h3 : (!thZ gl c (rcG gl (c.hv gl i) k).sh (rcG gl (c.hv gl i) k).sa)
     case' false =>
       exact ri_tftf gl c hc sc i hi k hk h1 h2 h3 W hG
     case' true =>
       exfalso; unfold rc3B at h; rw [h1, h2, h3] at h; first | (cases h; done) | simp at h
 case' true =>
   cases h2 : ((rcG gl (c.hv gl i) k).fl)
   case' false =>
     cases h3 : (!((rcG gl (c.hv gl i) k).sh == -1 && ((rcG gl (c.hv gl i) k).sa == 0 && true)))
     case' false =>
       exact ri_ttff gl c hc sc i hi k hk h1 h2 h3 W hG
     case' true =>
       cases h4 : (!thZ gl c (rcG gl (c.hv gl i) k).sh (rcG gl (c.hv gl i) k).sa)
       case' false =>
         exact ri_ttftf gl c hc sc i hi k hk h1 h2 h3 h4 W hG
       case' true =>
         exfalso; unfold rc3B at h; rw [h1, h2, h3, h4] at h; first | (cases h; done) | simp at h
   case' true =>
     exfalso; unfold rc3B at h; rw [h1, h2] at h; first | (cases h; done) | simp at h
theorem ri_out (gl : Gl) (c : Cn) (hc : CnOk gl c) (sc : CnSm gl c) (i : Nat) (hi : i < c.hn) (k : Nat) (hk : k < lenV (c.hv gl i)) (h : rc3B gl c i k = false) (W : World) (hG : GlobOk gl W) : S2.Sem (enX gl) W 44 (rcK (rcI ++ (0 :: rcP))) (rcS gl c i (rcL gl c i k)) (some none) (rcT) := by
 cases h1 : ((rcG gl (c.hv gl i) k).wt)
 case' false =>
   cases h2 : (!((rcG gl (c.hv gl i) k).sh == -1 && ((rcG gl (c.hv gl i) k).sa == 0 && true)))
   case' false =>
     exfalso; unfold rc3B at h; rw [h1, h2] at h; first | (cases h; done) | simp at h
   case' true =>
     cases h3 : (!thZ gl c (rcG gl (c.hv gl i) k).sh (rcG gl (c.hv gl i) k).sa)
     case' false =>
       exfalso; unfold rc3B at h; rw [h1, h2, h3] at h; first | (cases h; done) | simp at h
     case' true =>
       exact ri_tftt gl c hc sc i hi k hk h1 h2 h3 W hG
 case' true =>
   cases h2 : ((rcG gl (c.hv gl i) k).fl)
   case' false =>
     cases h3 : (!((rcG gl (c.hv gl i) k).sh == -1 && ((rcG gl (c.hv gl i) k).sa == 0 && true)))
     case' false =>
       exfalso; unfold rc3B at h; rw [h1, h2, h3] at h; first | (cases h; done) | simp at h
     case' true =>
       cases h4 : (!thZ gl c (rcG gl (c.hv gl i) k).sh (rcG gl (c.hv gl i) k).sa)
       case' false =>
         exfalso; unfold rc3B at h; rw [h1, h2, h3, h4] at h; first | (cases h; done) | simp at h
       case' true =>
         exact ri_ttftt gl c hc sc i hi k hk h1 h2 h3 h4 W hG
   case' true =>
     exact ri_ttt gl c hc sc i hi k hk h1 h2 W hG
theorem ri_end (gl : Gl) (c : Cn) (hc : CnOk gl c) (sc : CnSm gl c) (i : Nat) (hi : i < c.hn) (W : World) (hG : GlobOk gl W) : S2.Sem (enX gl) W 44 (rcK (rcI ++ (0 :: rcP))) (rcS gl c i (rcL gl c i (lenV (c.hv gl i)))) (some (some 2)) (rcS gl c i (rcL gl c i (lenV (c.hv gl i)))) := by
 refine sem_iter (enX_ok gl) hG (p := (rcQ [15, 16, 17])) (fuel := 1000) [false] [(decide (((lenV (c.hv gl i) : Nat) : Int) < ((lenV (c.hv gl i) : Nat) : Int)), false)] (by kernel_rfl) (by kernel_rfl) ?_
 refine qA ?_ <| qZ
 . exact ob_no (by omega)
theorem ri_yes (gl : Gl) (c : Cn) (hc : CnOk gl c) (sc : CnSm gl c) (i : Nat) (hi : i < c.hn) (h : skipN (rc3B gl c i) (lenV (c.hv gl i)) 0 = lenV (c.hv gl i)) (W : World) (hG : GlobOk gl W) : S2.Sem (enX gl) W 44 (.loop (rcK (rcI ++ (0 :: rcP)))) (rcS gl c i (rcL gl c i 0)) (some (some 2)) (rcS gl c i (rcL gl c i (lenV (c.hv gl i)))) :=
 sem_loop (E := enX gl) (w0 := base0 W) (nb := 0) (nl := 0) (n := 44) (c := (rcK (rcI ++ (0 :: rcP)))) (x := (some (some 2))) (s' := rcS gl c i (rcL gl c i (lenV (c.hv gl i)))) (fun z => rcS gl c i (rcL gl c i z)) (lenV (c.hv gl i)) (by simp) (fun z hz => ri_step gl c hc sc i hi z hz (skipN_all (rc3B gl c i) (lenV (c.hv gl i)) 0 z (by omega) (by omega)) W hG) (ri_end gl c hc sc i hi W hG)
theorem ri_no (gl : Gl) (c : Cn) (hc : CnOk gl c) (sc : CnSm gl c) (i : Nat) (hi : i < c.hn) (h : skipN (rc3B gl c i) (lenV (c.hv gl i)) 0 ≠ lenV (c.hv gl i)) (W : World) (hG : GlobOk gl W) : S2.Sem (enX gl) W 44 (.loop (rcK (rcI ++ (0 :: rcP)))) (rcS gl c i (rcL gl c i 0)) (some none) (rcT) := by
 have g4 := skipN_le (rc3B gl c i) (lenV (c.hv gl i)) 0
 exact sem_loop (E := enX gl) (w0 := base0 W) (nb := 0) (nl := 0) (n := 44) (c := (rcK (rcI ++ (0 :: rcP)))) (x := some none) (s' := rcT) (fun z => rcS gl c i (rcL gl c i z)) (skipN (rc3B gl c i) (lenV (c.hv gl i)) 0) (by simp) (fun z hz => ri_step gl c hc sc i hi z (by omega) (skipN_all (rc3B gl c i) (lenV (c.hv gl i)) 0 z (by omega) hz) W hG) (ri_out gl c hc sc i hi _ (by omega) (skipN_hit (by omega)) W hG)
noncomputable def rc2B (gl : Gl) (c : Cn) (i : Nat) : Bool := Nat.beq (skipN (rc3B gl c i) (lenV (c.hv gl i)) 0) (lenV (c.hv gl i))
theorem ro_ty (gl : Gl) (c : Cn) (hc : CnOk gl c) (sc : CnSm gl c) (i : Nat) (hi : i < c.hn)  (h : skipN (rc3B gl c i) (lenV (c.hv gl i)) 0 = lenV (c.hv gl i)) (W : World) (hG : GlobOk gl W) : S2.Sem (enX gl) W 44 (rcK rcP) (rcS gl c i []) none (rcS gl c (i + 1) []) := by
 have s1 := sc.1
 have s2 := sc.2.1
 have s3 := sc.2.2.1 i hi
 refine sem_iterP (enX_ok gl) hG (fuel := 1000) (d := 30) (p := (rcQ [])) [⟨rcI, (rcQ [15, 16, 17]), (some (some 2)), (rcS gl c i (rcL gl c i (lenV (c.hv gl i))))⟩] [true] [(pre (inI ((i : Int) + 1)), true), (pre (rowB gl (c.hv gl i) (rcE gl (c.hv gl i))), true), (pre (rowB gl c.h (hsE gl c.h)), true), (pre (decide (i < c.hn)), true), (pre (rowB gl c.h (hsE gl c.h)), true), (pre (idxB ((i : Int)) c.hn), true), (decide ((i : Int) < (c.hn : Int)), true)] [⟨.loop (rcK (rcI ++ (0 :: rcP))), rcS gl c i (rcL gl c i 0), (some (some 2)), (rcS gl c i (rcL gl c i (lenV (c.hv gl i))))⟩] (by kernel_rfl) (by kernel_rfl) ?_ (fun t ht => by obtain rfl := List.mem_singleton.mp ht; exact ri_yes gl c hc sc i hi h W hG)
 refine qF ?_ ?_ ?_ ?_ <| qA ?_ <| qA ?_ <| qA ?_ <| qZ
 . exact ob_inI (by omega)
 . exact rowB_ok.mpr (by first | exact hc.hs | exact hc.rw | exact hc.rc _ (by omega) | exact hc.rf _ (by omega))
 . exact rowB_ok.mpr (by first | exact hc.hs | exact hc.rw | exact hc.rc _ (by omega) | exact hc.rf _ (by omega))
 . exact ob_lt (by omega)
 . exact rowB_ok.mpr (by first | exact hc.hs | exact hc.rw | exact hc.rc _ (by omega) | exact hc.rf _ (by omega))
 . exact ob_idx (by omega)
 . exact ob_yes (by omega)
theorem ro_tn (gl : Gl) (c : Cn) (hc : CnOk gl c) (sc : CnSm gl c) (i : Nat) (hi : i < c.hn)  (h : skipN (rc3B gl c i) (lenV (c.hv gl i)) 0 ≠ lenV (c.hv gl i)) (W : World) (hG : GlobOk gl W) : S2.Sem (enX gl) W 44 (rcK rcP) (rcS gl c i []) (some none) (rcT) := by
 have s1 := sc.1
 have s2 := sc.2.1
 have s3 := sc.2.2.1 i hi
 refine sem_iterP (enX_ok gl) hG (fuel := 1000) (d := 30) (p := rcZ) [⟨rcI, (rcQ [15, 16, 17]), some none, rcT⟩] [true] [(pre (rowB gl (c.hv gl i) (rcE gl (c.hv gl i))), true), (pre (rowB gl c.h (hsE gl c.h)), true), (pre (decide (i < c.hn)), true), (pre (rowB gl c.h (hsE gl c.h)), true), (pre (idxB ((i : Int)) c.hn), true), (decide ((i : Int) < (c.hn : Int)), true)] [⟨.loop (rcK (rcI ++ (0 :: rcP))), rcS gl c i (rcL gl c i 0), some none, rcT⟩] (by kernel_rfl) (by kernel_rfl) ?_ (fun t ht => by obtain rfl := List.mem_singleton.mp ht; exact ri_no gl c hc sc i hi h W hG)
 refine qF ?_ ?_ ?_ ?_ <| qA ?_ <| qA ?_ <| qZ
 . exact rowB_ok.mpr (by first | exact hc.hs | exact hc.rw | exact hc.rc _ (by omega) | exact hc.rf _ (by omega))
 . exact rowB_ok.mpr (by first | exact hc.hs | exact hc.rw | exact hc.rc _ (by omega) | exact hc.rf _ (by omega))
 . exact ob_lt (by omega)
 . exact rowB_ok.mpr (by first | exact hc.hs | exact hc.rw | exact hc.rc _ (by omega) | exact hc.rf _ (by omega))
 . exact ob_idx (by omega)
 . exact ob_yes (by omega)
theorem ro_step (gl : Gl) (c : Cn) (hc : CnOk gl c) (sc : CnSm gl c) (i : Nat) (hi : i < c.hn) (h : rc2B gl c i = true) (W : World) (hG : GlobOk gl W) : S2.Sem (enX gl) W 44 (rcK rcP) (rcS gl c i []) none (rcS gl c (i + 1) []) := by
 unfold rc2B at h; exact ro_ty gl c hc sc i hi  (qB h) W hG
theorem ro_out (gl : Gl) (c : Cn) (hc : CnOk gl c) (sc : CnSm gl c) (i : Nat) (hi : i < c.hn) (h : rc2B gl c i = false) (W : World) (hG : GlobOk gl W) : S2.Sem (enX gl) W 44 (rcK rcP) (rcS gl c i []) (some none) (rcT) := by
 unfold rc2B at h; exact ro_tn gl c hc sc i hi  (fun hh => by rw [hh] at h; simp at h) W hG
theorem ro_end (gl : Gl) (c : Cn) (hc : CnOk gl c) (sc : CnSm gl c) (W : World) (hG : GlobOk gl W) : S2.Sem (enX gl) W 44 (rcK rcP) (rcS gl c c.hn []) (some (some 0)) (rcS gl c c.hn []) := by
 refine sem_iter (enX_ok gl) hG (p := (rcQ [])) (fuel := 1000) [false] [(decide (((c.hn : Nat) : Int) < (c.hn : Int)), false)] (by kernel_rfl) (by kernel_rfl) ?_
 refine qA ?_ <| qZ
 . exact ob_no (by omega)
theorem ro_yes (gl : Gl) (c : Cn) (hc : CnOk gl c) (sc : CnSm gl c) (h : skipN (rc2B gl c) (c.hn) 0 = c.hn) (W : World) (hG : GlobOk gl W) : S2.Sem (enX gl) W 44 (.loop (rcK rcP)) (rcS gl c 0 []) (some (some 0)) (rcS gl c c.hn []) :=
 sem_loop (E := enX gl) (w0 := base0 W) (nb := 0) (nl := 0) (n := 44) (c := (rcK rcP)) (x := (some (some 0))) (s' := rcS gl c c.hn []) (fun z => rcS gl c z []) (c.hn) (by simp) (fun z hz => ro_step gl c hc sc z hz (skipN_all (rc2B gl c) (c.hn) 0 z (by omega) (by omega)) W hG) (ro_end gl c hc sc W hG)
theorem ro_no (gl : Gl) (c : Cn) (hc : CnOk gl c) (sc : CnSm gl c) (h : skipN (rc2B gl c) (c.hn) 0 ≠ c.hn) (W : World) (hG : GlobOk gl W) : S2.Sem (enX gl) W 44 (.loop (rcK rcP)) (rcS gl c 0 []) (some none) (rcT) := by
 have g4 := skipN_le (rc2B gl c) (c.hn) 0
 exact sem_loop (E := enX gl) (w0 := base0 W) (nb := 0) (nl := 0) (n := 44) (c := (rcK rcP)) (x := some none) (s' := rcT) (fun z => rcS gl c z []) (skipN (rc2B gl c) (c.hn) 0) (by simp) (fun z hz => ro_step gl c hc sc z (by omega) (skipN_all (rc2B gl c) (c.hn) 0 z (by omega) hz) W hG) (ro_out gl c hc sc _ (by omega) (skipN_hit (by omega)) W hG)
noncomputable def rcB (gl : Gl) (c : Cn) : Bool := Nat.beq (skipN (rc2B gl c) c.hn 0) c.hn
theorem recordsFit_ret {gl : Gl} (c : Cn) (hc : CnOk gl c) (sc : CnSm gl c) (w : World) (hG : GlobOk gl w) : Ret Try.prog 24 #[cnV c] (.bool (rcB gl c)) w := by
 refine LRet.plain (?_ : LRet Try.prog 24 [cnV c] false [.inl (.bool _)] w)
 have ha : ArgsOk w [.inl (cnV c)] [cnV c] := ⟨rfl, trivial⟩
 unfold rcB
 by_cases h : skipN (rc2B gl c) c.hn 0 = c.hn
 . rw [show Nat.beq (skipN (rc2B gl c) c.hn 0) c.hn = true from by rw [h]; exact Nat.beq_refl _]
   refine fn_ok (enX_ok gl) (fuel := 1000) (d := 30) (plan := [⟨rcP, rcQ [], some (some 0), rcS gl c c.hn []⟩]) (orc := []) (fls := [[true, true]]) (l := [(pre (rowB gl c.h (hsE gl c.h)), true)]) (tr := [⟨.loop (rcK rcP), rcS gl c 0 [], some (some 0), rcS gl c c.hn []⟩]) (by kernel_rfl) ?_ Try.func24 w _ hG ha fun t ht => ?_
   . refine qA ?_ <| qZ
     . exact rowB_ok.mpr hc.hs
   . obtain rfl := List.mem_singleton.mp ht
     exact ro_yes gl c hc sc h w hG
 . rw [show Nat.beq (skipN (rc2B gl c) c.hn 0) c.hn = false from by rw [<- Bool.not_eq_true]; exact fun hb => h (qB hb)]
   refine fn_ok (enX_ok gl) (fuel := 1000) (d := 30) (plan := [⟨rcP, rcQ [], some none, rcT⟩]) (orc := []) (fls := [[true, true]]) (l := [(pre (rowB gl c.h (hsE gl c.h)), true)]) (tr := [⟨.loop (rcK rcP), rcS gl c 0 [], some none, rcT⟩]) (by kernel_rfl) ?_ Try.func24 w _ hG ha fun t ht => ?_
   . refine qA ?_ <| qZ
     . exact rowB_ok.mpr hc.hs
   . obtain rfl := List.mem_singleton.mp ht
     exact ro_no gl c hc sc h w hG
noncomputable def pRecFit (gl : Gl) : PTab := prow 24 decC1 (fun x => .bool (rcB gl x)) (fun x => propB (CnOk gl x /\ CnSm gl x))
theorem pRecFit_ok {gl : Gl} : PTabOk Try.prog gl (pRecFit gl) := .row decC1_eq fun x h w hG => by
 obtain ⟨h1, h2⟩ := propB_ok.mp h
 exact recordsFit_ret x h1 h2 w hG
theorem rc3_eq (gl : Gl) (c : Cn) (i k : Nat) : rc3B gl c i k = ck3B gl c i k := by
 unfold rc3B ck3B
 cases (rcG gl (c.hv gl i) k).wt <;> cases (rcG gl (c.hv gl i) k).fl <;> cases ((rcG gl (c.hv gl i) k).sh == -1) <;> cases ((rcG gl (c.hv gl i) k).sa == 0) <;> cases thZ gl c (rcG gl (c.hv gl i) k).sh (rcG gl (c.hv gl i) k).sa <;> rfl
theorem rc2_eq (gl : Gl) (c : Cn) (i : Nat) : rc2B gl c i = ck2B gl c i := by
 unfold rc2B ck2B
 rw [skipN_congr (rc3_eq gl c i)]
theorem rcB_eq (gl : Gl) (c : Cn) : rcB gl c = Nat.beq (skipN (ck2B gl c) c.hn 0) c.hn := by
 unfold rcB
 rw [skipN_congr (rc2_eq gl c)]
end Go.Proofs.Ytmaffamhjmlonaa
