/- Layer 13: the reference: twice. -/
import Derived.Test.YtmaffamhjmlonaaK10
set_option linter.unusedVariables false
set_option linter.unusedSimpArgs false
namespace Go.Proofs.Ytmaffamhjmlonaa
open Go.RowKit Sim S2
def twP : List Nat := [0, 1, 0, 1, 1]
def twI : List Nat := [0, 1, 0, 0, 1]
noncomputable def twK (p : List Nat) : Code := codeAt (codeOf Try.prog 19) (0 :: p)
def rfB (r : Rf) : S2.Blk := ⟨[.inl ([true], .int .i64 r.h), .inl ([true], .int .i64 r.a)], 46, .cells⟩
def twS (c : Cn) (r : Rf) (w a : Nat) (l : List (Nat × S2.SV)) : S2.St := { tmps := [(1, .inl ([true], .int .i64 w)), (2, .inl ([true], .int .i64 a)), (3, .inr (0, 0, none)), (7, .inr (1, 0, none))] ++ l, own := ⟨[cnB c, rfB r], []⟩, lo := 0, llo := 0, mem := true, orc := [], obl := [] }
def twQ (l : List Nat) : Pick := { ts := [1, 2, 3, 7] ++ l, bs := [0, 1], ls := [], opn := [1, 2] ++ l, opb := [1] }
def twZ : Pick := { ts := [6], bs := [], ls := [] }
def twT : S2.St := { tmps := [(6, .inl ([], .bool true))], own := ⟨[], []⟩, lo := 0, llo := 0, mem := true, orc := [], obl := [] }
noncomputable def tw1 (gl : Gl) (c : Cn) (r : Rf) (w a i k : Nat) : Bool := !((decide ((i : Int) < (w : Int)) || decide ((k : Int) < (a : Int))) && ((rfG gl (c.rv gl i) k).h == r.h && ((rfG gl (c.rv gl i) k).a == r.a && true)))
noncomputable def tw2 (gl : Gl) (c : Cn) (r : Rf) (w a i : Nat) : Bool := Nat.beq (skipN (tw1 gl c r w a i) (lenV (c.rv gl i)) 0) (lenV (c.rv gl i))
noncomputable def twB (gl : Gl) (c : Cn) (w a : Nat) : Bool := !Nat.beq (skipN (tw2 gl c (rfG gl (c.rv gl w) a) w a) (w + 1) 0) (w + 1)
theorem twZ_ex : ∃ f : Gl -> Cn -> Int -> Int -> Bool, ∀ gl c w a, f gl c w a = twB gl c w.toNat a.toNat := ⟨_, fun _ _ _ _ => rfl⟩
noncomputable def twiZ : Gl -> Cn -> Int -> Int -> Bool := Classical.choose twZ_ex
theorem twiZ_eq (gl : Gl) (c : Cn) (w a : Int) : twiZ gl c w a = twB gl c w.toNat a.toNat := Classical.choose_spec twZ_ex gl c w a
theorem twi_tff (gl : Gl) (c : Cn) (r : Rf) (w a i : Nat) (hc : CnOk gl c) (sc : CnSm gl c) (hw : w < c.rn) (hi : i <= w) (k : Nat) (hk : k < lenV (c.rv gl i)) (h1 : (decide ((i : Int) < (w : Int))) = false) (h2 : (decide ((k : Int) < (a : Int))) = false) (W : World) (hG : GlobOk gl W) : S2.Sem (enD0 gl) W 56 (twK (twI ++ (0 :: twP))) (twS c r w a [iS 8 i, iS 9 k]) none (twS c r w a [iS 8 i, iS 9 (k + 1)]) := by
 have hs := sc.2.2.2 i (by omega)
 have hs1 := sc.2.1
 refine sem_iter (enD0_ok gl) hG (p := (twQ [8, 9])) (fuel := 1000) [true, false, false] [(pre (inI ((k : Int) + 1)), true), (decide ((k : Int) < (a : Int)), false), (decide ((i : Int) < (w : Int)), false), (decide ((k : Int) < ((lenV (c.rv gl i) : Nat) : Int)), true), (pre (rowB gl (c.rv gl i) (rfE gl (c.rv gl i))), true), (pre (rowB gl c.r (rwE gl c.r)), true), (pre (decide (i < c.rn)), true), (pre (rowB gl c.r (rwE gl c.r)), true), (pre (decide (i < c.rn)), true), (pre (rowB gl c.r (rwE gl c.r)), true), (pre (idxB ((i : Int)) c.rn), true)] (by kernel_rfl) (by kernel_rfl) ?_
 refine qF ?_ ?_ ?_ ?_ <| qF ?_ ?_ ?_ ?_ <| qA ?_ <| qA ?_ <| qA ?_ <| qZ
 . exact ob_inI (by omega)
 . assumption
 . assumption
 . exact ob_yes (by omega)
 . exact rowB_ok.mpr (by first | exact hc.rw | exact hc.rf _ (by omega))
 . exact rowB_ok.mpr (by first | exact hc.rw | exact hc.rf _ (by omega))
 . exact ob_lt (by omega)
 . exact rowB_ok.mpr (by first | exact hc.rw | exact hc.rf _ (by omega))
 . exact ob_lt (by omega)
 . exact rowB_ok.mpr (by first | exact hc.rw | exact hc.rf _ (by omega))
 . exact ob_idx (by omega)
theorem twi_tftf (gl : Gl) (c : Cn) (r : Rf) (w a i : Nat) (hc : CnOk gl c) (sc : CnSm gl c) (hw : w < c.rn) (hi : i <= w) (k : Nat) (hk : k < lenV (c.rv gl i)) (h1 : (decide ((i : Int) < (w : Int))) = false) (h2 : (decide ((k : Int) < (a : Int))) = true) (h3 : ((rfG gl (c.rv gl i) k).h == r.h && ((rfG gl (c.rv gl i) k).a == r.a && true)) = false) (W : World) (hG : GlobOk gl W) : S2.Sem (enD0 gl) W 56 (twK (twI ++ (0 :: twP))) (twS c r w a [iS 8 i, iS 9 k]) none (twS c r w a [iS 8 i, iS 9 (k + 1)]) := by
 have hs := sc.2.2.2 i (by omega)
 have hs1 := sc.2.1
 refine sem_iter (enD0_ok gl) hG (p := (twQ [8, 9])) (fuel := 1000) [true, false, true, false] [(pre (inI ((k : Int) + 1)), true), ((rfG gl (c.rv gl i) k).h == r.h && ((rfG gl (c.rv gl i) k).a == r.a && true), false), (pre (rowB gl (c.rv gl i) (rfE gl (c.rv gl i))), true), (pre (decide (k < (lenV (c.rv gl i)))), true), (pre (rowB gl (c.rv gl i) (rfE gl (c.rv gl i))), true), (pre (idxB ((k : Int)) (lenV (c.rv gl i))), true), (pre (rowB gl c.r (rwE gl c.r)), true), (pre (decide (i < c.rn)), true), (pre (rowB gl c.r (rwE gl c.r)), true), (pre (decide (i < c.rn)), true), (pre (rowB gl c.r (rwE gl c.r)), true), (pre (idxB ((i : Int)) c.rn), true), (decide ((k : Int) < (a : Int)), true), (decide ((i : Int) < (w : Int)), false), (decide ((k : Int) < ((lenV (c.rv gl i) : Nat) : Int)), true), (pre (rowB gl (c.rv gl i) (rfE gl (c.rv gl i))), true), (pre (rowB gl c.r (rwE gl c.r)), true), (pre (decide (i < c.rn)), true), (pre (rowB gl c.r (rwE gl c.r)), true), (pre (decide (i < c.rn)), true), (pre (rowB gl c.r (rwE gl c.r)), true), (pre (idxB ((i : Int)) c.rn), true)] (by kernel_rfl) (by kernel_rfl) ?_
 refine qF ?_ ?_ ?_ ?_ <| qF ?_ ?_ ?_ ?_ <| qF ?_ ?_ ?_ ?_ <| qF ?_ ?_ ?_ ?_ <| qF ?_ ?_ ?_ ?_ <| qA ?_ <| qA ?_ <| qZ
 . exact ob_inI (by omega)
 . assumption
 . exact rowB_ok.mpr (by first | exact hc.rw | exact hc.rf _ (by omega))
 . exact ob_lt (by omega)
 . exact rowB_ok.mpr (by first | exact hc.rw | exact hc.rf _ (by omega))
 . exact ob_idx (by omega)
 . exact rowB_ok.mpr (by first | exact hc.rw | exact hc.rf _ (by omega))
 . exact ob_lt (by omega)
 . exact rowB_ok.mpr (by first | exact hc.rw | exact hc.rf _ (by omega))
 . exact ob_lt (by omega)
 . exact rowB_ok.mpr (by first | exact hc.rw | exact hc.rf _ (by omega))
 . exact ob_idx (by omega)
 . assumption
 . assumption
 . exact ob_yes (by omega)
 . exact rowB_ok.mpr (by first | exact hc.rw | exact hc.rf _ (by omega))
 . exact rowB_ok.mpr (by first | exact hc.rw | exact hc.rf _ (by omega))
 . exact ob_lt (by omega)
 . exact rowB_ok.mpr (by first | exact hc.rw | exact hc.rf _ (by omega))
 . exact ob_lt (by omega)
 . exact rowB_ok.mpr (by first | exact hc.rw | exact hc.rf _ (by omega))
 . exact ob_idx (by omega)
theorem twi_tftt (gl : Gl) (c : Cn) (r : Rf) (w a i : Nat) (hc : CnOk gl c) (sc : CnSm gl c) (hw : w < c.rn) (hi : i <= w) (k : Nat) (hk : k < lenV (c.rv gl i)) (h1 : (decide ((i : Int) < (w : Int))) = false) (h2 : (decide ((k : Int) < (a : Int))) = true) (h3 : ((rfG gl (c.rv gl i) k).h == r.h && ((rfG gl (c.rv gl i) k).a == r.a && true)) = true) (W : World) (hG : GlobOk gl W) : S2.Sem (enD0 gl) W 56 (twK (twI ++ (0 :: twP))) (twS c r w a [iS 8 i, iS 9 k]) (some none) (twT) := by
 have hs := sc.2.2.2 i (by omega)
 have hs1 := sc.2.1
 refine sem_iter (enD0_ok gl) hG (p := twZ) (fuel := 1000) [true, false, true, true] [((rfG gl (c.rv gl i) k).h == r.h && ((rfG gl (c.rv gl i) k).a == r.a && true), true), (pre (rowB gl (c.rv gl i) (rfE gl (c.rv gl i))), true), (pre (decide (k < (lenV (c.rv gl i)))), true), (pre (rowB gl (c.rv gl i) (rfE gl (c.rv gl i))), true), (pre (idxB ((k : Int)) (lenV (c.rv gl i))), true), (pre (rowB gl c.r (rwE gl c.r)), true), (pre (decide (i < c.rn)), true), (pre (rowB gl c.r (rwE gl c.r)), true), (pre (decide (i < c.rn)), true), (pre (rowB gl c.r (rwE gl c.r)), true), (pre (idxB ((i : Int)) c.rn), true), (decide ((k : Int) < (a : Int)), true), (decide ((i : Int) < (w : Int)), false), (decide ((k : Int) < ((lenV (c.rv gl i) : Nat) : Int)), true), (pre (rowB gl (c.rv gl i) (rfE gl (c.rv gl i))), true), (pre (rowB gl c.r (rwE gl c.r)), true), (pre (decide (i < c.rn)), true), (pre (rowB gl c.r (rwE gl c.r)), true), (pre (decide (i < c.rn)), true), (pre (rowB gl c.r (rwE gl c.r)), true), (pre (idxB ((i : Int)) c.rn), true)] (by kernel_rfl) (by kernel_rfl) ?_
 refine qF ?_ ?_ ?_ ?_ <| qF ?_ ?_ ?_ ?_ <| qF ?_ ?_ ?_ ?_ <| qF ?_ ?_ ?_ ?_ <| qF ?_ ?_ ?_ ?_ <| qA ?_ <| qZ
 . assumption
 . exact rowB_ok.mpr (by first | exact hc.rw | exact hc.rf _ (by omega))
 . exact ob_lt (by omega)
 . exact rowB_ok.mpr (by first | exact hc.rw | exact hc.rf _ (by omega))
 . exact ob_idx (by omega)
 . exact rowB_ok.mpr (by first | exact hc.rw | exact hc.rf _ (by omega))
 . exact ob_lt (by omega)
 . exact rowB_ok.mpr (by first | exact hc.rw | exact hc.rf _ (by omega))
 . exact ob_lt (by omega)
 . exact rowB_ok.mpr (by first | exact hc.rw | exact hc.rf _ (by omega))
 . exact ob_idx (by omega)
 . assumption
 . assumption
 . exact ob_yes (by omega)
 . exact rowB_ok.mpr (by first | exact hc.rw | exact hc.rf _ (by omega))
 . exact rowB_ok.mpr (by first | exact hc.rw | exact hc.rf _ (by omega))
 . exact ob_lt (by omega)
 . exact rowB_ok.mpr (by first | exact hc.rw | exact hc.rf _ (by omega))
 . exact ob_lt (by omega)
 . exact rowB_ok.mpr (by first | exact hc.rw | exact hc.rf _ (by omega))
 . exact ob_idx (by omega)
theorem twi_ttf (gl : Gl) (c : Cn) (r : Rf) (w a i : Nat) (hc : CnOk gl c) (sc : CnSm gl c) (hw : w < c.rn) (hi : i <= w) (k : Nat) (hk : k < lenV (c.rv gl i)) (h1 : (decide ((i : Int) < (w : Int))) = true) (h2 : ((rfG gl (c.rv gl i) k).h == r.h && ((rfG gl (c.rv gl i) k).a == r.a && true)) = false) (W : World) (hG : GlobOk gl W) : S2.Sem (enD0 gl) W 56 (twK (twI ++ (0 :: twP))) (twS c r w a [iS 8 i, iS 9 k]) none (twS c r w a [iS 8 i, iS 9 (k + 1)]) := by
 have hs := sc.2.2.2 i (by omega)
 have hs1 := sc.2.1
 refine sem_iter (enD0_ok gl) hG (p := (twQ [8, 9])) (fuel := 1000) [true, true, false] [(pre (inI ((k : Int) + 1)), true), ((rfG gl (c.rv gl i) k).h == r.h && ((rfG gl (c.rv gl i) k).a == r.a && true), false), (pre (rowB gl (c.rv gl i) (rfE gl (c.rv gl i))), true), (pre (decide (k < (lenV (c.rv gl i)))), true), (pre (rowB gl (c.rv gl i) (rfE gl (c.rv gl i))), true), (pre (idxB ((k : Int)) (lenV (c.rv gl i))), true), (pre (rowB gl c.r (rwE gl c.r)), true), (pre (decide (i < c.rn)), true), (pre (rowB gl c.r (rwE gl c.r)), true), (pre (decide (i < c.rn)), true), (pre (rowB gl c.r (rwE gl c.r)), true), (pre (idxB ((i : Int)) c.rn), true), (decide ((i : Int) < (w : Int)), true), (decide ((k : Int) < ((lenV (c.rv gl i) : Nat) : Int)), true), (pre (rowB gl (c.rv gl i) (rfE gl (c.rv gl i))), true), (pre (rowB gl c.r (rwE gl c.r)), true), (pre (decide (i < c.rn)), true), (pre (rowB gl c.r (rwE gl c.r)), true), (pre (decide (i < c.rn)), true), (pre (rowB gl c.r (rwE gl c.r)), true), (pre (idxB ((i : Int)) c.rn), true)] (by kernel_rfl) (by kernel_rfl) ?_
 refine qF ?_ ?_ ?_ ?_ <| qF ?_ ?_ ?_ ?_ <| qF ?_ ?_ ?_ ?_ <| qF ?_ ?_ ?_ ?_ <| qF ?_ ?_ ?_ ?_ <| qA ?_ <| qZ
 . exact ob_inI (by omega)
 . assumption
 . exact rowB_ok.mpr (by first | exact hc.rw | exact hc.rf _ (by omega))
 . exact ob_lt (by omega)
 . exact rowB_ok.mpr (by first | exact hc.rw | exact hc.rf _ (by omega))
 . exact ob_idx (by omega)
 . exact rowB_ok.mpr (by first | exact hc.rw | exact hc.rf _ (by omega))
 . exact ob_lt (by omega)
 . exact rowB_ok.mpr (by first | exact hc.rw | exact hc.rf _ (by omega))
 . exact ob_lt (by omega)
 . exact rowB_ok.mpr (by first | exact hc.rw | exact hc.rf _ (by omega))
 . exact ob_idx (by omega)
 . assumption
 . exact ob_yes (by omega)
 . exact rowB_ok.mpr (by first | exact hc.rw | exact hc.rf _ (by omega))
 . exact rowB_ok.mpr (by first | exact hc.rw | exact hc.rf _ (by omega))
 . exact ob_lt (by omega)
 . exact rowB_ok.mpr (by first | exact hc.rw | exact hc.rf _ (by omega))
 . exact ob_lt (by omega)
 . exact rowB_ok.mpr (by first | exact hc.rw | exact hc.rf _ (by omega))
 . exact ob_idx (by omega)
theorem twi_ttt (gl : Gl) (c : Cn) (r : Rf) (w a i : Nat) (hc : CnOk gl c) (sc : CnSm gl c) (hw : w < c.rn) (hi : i <= w) (k : Nat) (hk : k < lenV (c.rv gl i)) (h1 : (decide ((i : Int) < (w : Int))) = true) (h2 : ((rfG gl (c.rv gl i) k).h == r.h && ((rfG gl (c.rv gl i) k).a == r.a && true)) = true) (W : World) (hG : GlobOk gl W) : S2.Sem (enD0 gl) W 56 (twK (twI ++ (0 :: twP))) (twS c r w a [iS 8 i, iS 9 k]) (some none) (twT) := by
 have hs := sc.2.2.2 i (by omega)
 have hs1 := sc.2.1
 refine sem_iter (enD0_ok gl) hG (p := twZ) (fuel := 1000) [true, true, true] [((rfG gl (c.rv gl i) k).h == r.h && ((rfG gl (c.rv gl i) k).a == r.a && true), true), (pre (rowB gl (c.rv gl i) (rfE gl (c.rv gl i))), true), (pre (decide (k < (lenV (c.rv gl i)))), true), (pre (rowB gl (c.rv gl i) (rfE gl (c.rv gl i))), true), (pre (idxB ((k : Int)) (lenV (c.rv gl i))), true), (pre (rowB gl c.r (rwE gl c.r)), true), (pre (decide (i < c.rn)), true), (pre (rowB gl c.r (rwE gl c.r)), true), (pre (decide (i < c.rn)), true), (pre (rowB gl c.r (rwE gl c.r)), true), (pre (idxB ((i : Int)) c.rn), true), (decide ((i : Int) < (w : Int)), true), (decide ((k : Int) < ((lenV (c.rv gl i) : Nat) : Int)), true), (pre (rowB gl (c.rv gl i) (rfE gl (c.rv gl i))), true), (pre (rowB gl c.r (rwE gl c.r)), true), (pre (decide (i < c.rn)), true), (pre (rowB gl c.r (rwE gl c.r)), true), (pre (decide (i < c.rn)), true), (pre (rowB gl c.r (rwE gl c.r)), true), (pre (idxB ((i : Int)) c.rn), true)] (by kernel_rfl) (by kernel_rfl) ?_
 refine qF ?_ ?_ ?_ ?_ <| qF ?_ ?_ ?_ ?_ <| qF ?_ ?_ ?_ ?_ <| qF ?_ ?_ ?_ ?_ <| qF ?_ ?_ ?_ ?_ <| qZ
 . assumption
 . exact rowB_ok.mpr (by first | exact hc.rw | exact hc.rf _ (by omega))
 . exact ob_lt (by omega)
 . exact rowB_ok.mpr (by first | exact hc.rw | exact hc.rf _ (by omega))
 . exact ob_idx (by omega)
 . exact rowB_ok.mpr (by first | exact hc.rw | exact hc.rf _ (by omega))
 . exact ob_lt (by omega)
 . exact rowB_ok.mpr (by first | exact hc.rw | exact hc.rf _ (by omega))
 . exact ob_lt (by omega)
 . exact rowB_ok.mpr (by first | exact hc.rw | exact hc.rf _ (by omega))
 . exact ob_idx (by omega)
 . assumption
 . exact ob_yes (by omega)
 . exact rowB_ok.mpr (by first | exact hc.rw | exact hc.rf _ (by omega))
 . exact rowB_ok.mpr (by first | exact hc.rw | exact hc.rf _ (by omega))
 . exact ob_lt (by omega)
 . exact rowB_ok.mpr (by first | exact hc.rw | exact hc.rf _ (by omega))
 . exact ob_lt (by omega)
 . exact rowB_ok.mpr (by first | exact hc.rw | exact hc.rf _ (by omega))
 . exact ob_idx (by omega)
theorem twi_end (gl : Gl) (c : Cn) (r : Rf) (w a i : Nat) (hc : CnOk gl c) (sc : CnSm gl c) (hw : w < c.rn) (hi : i <= w)  (W : World) (hG : GlobOk gl W) : S2.Sem (enD0 gl) W 56 (twK (twI ++ (0 :: twP))) (twS c r w a [iS 8 i, iS 9 (lenV (c.rv gl i))]) (some (some 2)) (twS c r w a [iS 8 i, iS 9 (lenV (c.rv gl i))]) := by
 have hs := sc.2.2.2 i (by omega)
 have hs1 := sc.2.1
 refine sem_iter (enD0_ok gl) hG (p := (twQ [8, 9])) (fuel := 1000) [false] [(decide (((lenV (c.rv gl i) : Nat) : Int) < ((lenV (c.rv gl i) : Nat) : Int)), false), (pre (rowB gl (c.rv gl i) (rfE gl (c.rv gl i))), true), (pre (rowB gl c.r (rwE gl c.r)), true), (pre (decide (i < c.rn)), true), (pre (rowB gl c.r (rwE gl c.r)), true), (pre (decide (i < c.rn)), true), (pre (rowB gl c.r (rwE gl c.r)), true), (pre (idxB ((i : Int)) c.rn), true)] (by kernel_rfl) (by kernel_rfl) ?_
 refine qF ?_ ?_ ?_ ?_ <| qF ?_ ?_ ?_ ?_ <| qZ
 . exact ob_no (by omega)
 . exact rowB_ok.mpr (by first | exact hc.rw | exact hc.rf _ (by omega))
 . exact rowB_ok.mpr (by first | exact hc.rw | exact hc.rf _ (by omega))
 . exact ob_lt (by omega)
 . exact rowB_ok.mpr (by first | exact hc.rw | exact hc.rf _ (by omega))
 . exact ob_lt (by omega)
 . exact rowB_ok.mpr (by first | exact hc.rw | exact hc.rf _ (by omega))
 . exact ob_idx (by omega)
theorem twi_step (gl : Gl) (c : Cn) (r : Rf) (w a i : Nat) (hc : CnOk gl c) (sc : CnSm gl c) (hw : w < c.rn) (hi : i <= w) (k : Nat) (hk : k < lenV (c.rv gl i)) (h : tw1 gl c r w a i k = true) (W : World) (hG : GlobOk gl W) : S2.Sem (enD0 gl) W 56 (twK (twI ++ (0 :: twP))) (twS c r w a [iS 8 i, iS 9 k]) none (twS c r w a [iS 8 i, iS 9 (k + 1)]) := by
 cases h1 : (decide ((i : Int) < (w : Int)))
 case' false =>
   cases h2 : (decide ((k : Int) < (a : Int)))
   case' false =>
     exact twi_tff gl c r w a i hc sc hw hi k hk h1 h2 W hG
   case' true =>
     cases h3 : ((rfG gl (c.rv gl i) k).h == r.h && ((rfG gl (c.rv gl i) k).a == r.a && true))
     case' false =>
       exact twi_tftf gl c r w a i hc sc hw hi k hk h1 h2 h3 W hG
     case' true =>
       exfalso; unfold tw1 at h; rw [h1, h2, h3] at h; first | (cases h; done) | simp at h
 case' true =>
   cases h2 : ((rfG gl (c.rv gl i) k).h == r.h && ((rfG gl (c.rv gl i) k).a == r.a && true))
   case' false =>
     exact twi_ttf gl c r w a i hc sc hw hi k hk h1 h2 W hG
   case' true =>
     exfalso; unfold tw1 at h; rw [h1, h2] at h; first | (cases h; done) | simp at h
theorem twi_out (gl : Gl) (c : Cn) (r : Rf) (w a i : Nat) (hc : CnOk gl c) (sc : CnSm gl c) (hw : w < c.rn) (hi : i <= w) (k : Nat) (hk : k < lenV (c.rv gl i)) (h : tw1 gl c r w a i k = false) (W : World) (hG : GlobOk gl W) : S2.Sem (enD0 gl) W 56 (twK (twI ++ (0 :: twP))) (twS c r w a [iS 8 i, iS 9 k]) (some none) (twT) := by
 cases h1 : (decide ((i : Int) < (w : Int)))
 case' false =>
   cases h2 : (decide ((k : Int) < (a : Int)))
   case' false =>
     exfalso; unfold tw1 at h; rw [h1, h2] at h; first | (cases h; done) | simp at h
   case' true =>
     cases h3 : ((rfG gl (c.rv gl i) k).h == r.h && ((rfG gl (c.rv gl i) k).a == r.a && true))
     case' false =>
       exfalso; unfold tw1 at h; rw [h1, h2, h3] at h; first | (cases h; done) | simp at h
     case' true =>
       exact twi_tftt gl c r w a i hc sc hw hi k hk h1 h2 h3 W hG
 case' true =>
   cases h2 : ((rfG gl (c.rv gl i) k).h == r.h && ((rfG gl (c.rv gl i) k).a == r.a && true))
   case' false =>
     exfalso; unfold tw1 at h; rw [h1, h2] at h; first | (cases h; done) | simp at h
   case' true =>
     exact twi_ttt gl c r w a i hc sc hw hi k hk h1 h2 W hG
theorem twi_yes (gl : Gl) (c : Cn) (r : Rf) (w a i : Nat) (hc : CnOk gl c) (sc : CnSm gl c) (hw : w < c.rn) (hi : i <= w) (h : skipN (tw1 gl c r w a i) (lenV (c.rv gl i)) 0 = (lenV (c.rv gl i))) (W : World) (hG : GlobOk gl W) : S2.Sem (enD0 gl) W 56 (.loop (twK (twI ++ (0 :: twP)))) (twS c r w a [iS 8 i, iS 9 0]) (some (some 2)) (twS c r w a [iS 8 i, iS 9 (lenV (c.rv gl i))]) :=
 sem_loop (E := enD0 gl) (w0 := base0 W) (nb := 0) (nl := 0) (n := 56) (c := (twK (twI ++ (0 :: twP)))) (x := (some (some 2))) (s' := twS c r w a [iS 8 i, iS 9 (lenV (c.rv gl i))]) (fun z => twS c r w a [iS 8 i, iS 9 z]) ((lenV (c.rv gl i))) (by simp) (fun z hz => twi_step gl c r w a i hc sc hw hi z  hz (skipN_all (tw1 gl c r w a i) (lenV (c.rv gl i)) 0 z (by omega) (by omega)) W hG) (twi_end gl c r w a i hc sc hw hi W hG)
theorem twi_no (gl : Gl) (c : Cn) (r : Rf) (w a i : Nat) (hc : CnOk gl c) (sc : CnSm gl c) (hw : w < c.rn) (hi : i <= w) (h : skipN (tw1 gl c r w a i) (lenV (c.rv gl i)) 0 ≠ (lenV (c.rv gl i))) (W : World) (hG : GlobOk gl W) : S2.Sem (enD0 gl) W 56 (.loop (twK (twI ++ (0 :: twP)))) (twS c r w a [iS 8 i, iS 9 0]) (some none) (twT) := by
 have g4 := skipN_le (tw1 gl c r w a i) (lenV (c.rv gl i)) 0
 exact sem_loop (E := enD0 gl) (w0 := base0 W) (nb := 0) (nl := 0) (n := 56) (c := (twK (twI ++ (0 :: twP)))) (x := some none) (s' := twT) (fun z => twS c r w a [iS 8 i, iS 9 z]) (skipN (tw1 gl c r w a i) (lenV (c.rv gl i)) 0) (by simp) (fun z hz => twi_step gl c r w a i hc sc hw hi z  (by omega) (skipN_all (tw1 gl c r w a i) (lenV (c.rv gl i)) 0 z (by omega) hz) W hG) (twi_out gl c r w a i hc sc hw hi _  (by omega) (skipN_hit (by omega)) W hG)
theorem two_a (gl : Gl) (c : Cn) (r : Rf) (w a : Nat) (hc : CnOk gl c) (sc : CnSm gl c) (hw : w < c.rn) (i : Nat) (hi : i < w + 1) (h : skipN (tw1 gl c r w a i) (lenV (c.rv gl i)) 0 = lenV (c.rv gl i)) (W : World) (hG : GlobOk gl W) : S2.Sem (enD0 gl) W 56 (twK twP) (twS c r w a [iS 8 i]) none (twS c r w a [iS 8 (i + 1)]) := by
 have hs1 := sc.2.1
 refine sem_iterP (enD0_ok gl) hG (fuel := 1000) (d := 30) (p := (twQ [8])) [⟨twI, twQ [8, 9], some (some 2), (twS c r w a [iS 8 i, iS 9 (lenV (c.rv gl i))])⟩] [true] [(pre (inI ((i : Int) + 1)), true), (decide ((i : Int) <= (w : Int)), true)] [⟨.loop (twK (twI ++ (0 :: twP))), twS c r w a [iS 8 i, iS 9 0], some (some 2), (twS c r w a [iS 8 i, iS 9 (lenV (c.rv gl i))])⟩] (by kernel_rfl) (by kernel_rfl) ?_ (fun t ht => by obtain rfl := List.mem_singleton.mp ht; exact twi_yes gl c r w a i hc sc hw (by omega) h W hG)
 refine qA ?_ <| qA ?_ <| qZ
 . exact ob_inI (by omega)
 . exact ob_yes (by omega)
theorem two_b (gl : Gl) (c : Cn) (r : Rf) (w a : Nat) (hc : CnOk gl c) (sc : CnSm gl c) (hw : w < c.rn) (i : Nat) (hi : i < w + 1) (h : skipN (tw1 gl c r w a i) (lenV (c.rv gl i)) 0 ≠ lenV (c.rv gl i)) (W : World) (hG : GlobOk gl W) : S2.Sem (enD0 gl) W 56 (twK twP) (twS c r w a [iS 8 i]) (some none) (twT) := by
 have hs1 := sc.2.1
 refine sem_iterP (enD0_ok gl) hG (fuel := 1000) (d := 30) (p := twZ) [⟨twI, twQ [8, 9], some none, twT⟩] [true] [(decide ((i : Int) <= (w : Int)), true)] [⟨.loop (twK (twI ++ (0 :: twP))), twS c r w a [iS 8 i, iS 9 0], some none, twT⟩] (by kernel_rfl) (by kernel_rfl) ?_ (fun t ht => by obtain rfl := List.mem_singleton.mp ht; exact twi_no gl c r w a i hc sc hw (by omega) h W hG)
 refine qA ?_ <| qZ
 . exact ob_yes (by omega)
theorem two_step (gl : Gl) (c : Cn) (r : Rf) (w a : Nat) (hc : CnOk gl c) (sc : CnSm gl c) (hw : w < c.rn) (i : Nat) (hi : i < w + 1) (h : tw2 gl c r w a i = true) (W : World) (hG : GlobOk gl W) : S2.Sem (enD0 gl) W 56 (twK twP) (twS c r w a [iS 8 i]) none (twS c r w a [iS 8 (i + 1)]) := two_a gl c r w a hc sc hw i hi (qB h) W hG
theorem two_out (gl : Gl) (c : Cn) (r : Rf) (w a : Nat) (hc : CnOk gl c) (sc : CnSm gl c) (hw : w < c.rn) (i : Nat) (hi : i < w + 1) (h : tw2 gl c r w a i = false) (W : World) (hG : GlobOk gl W) : S2.Sem (enD0 gl) W 56 (twK twP) (twS c r w a [iS 8 i]) (some none) twT :=
 two_b gl c r w a hc sc hw i hi (fun hh => by unfold tw2 at h; rw [hh, Nat.beq_refl] at h; cases h) W hG
theorem two_end (gl : Gl) (c : Cn) (r : Rf) (w a : Nat) (hc : CnOk gl c) (sc : CnSm gl c) (hw : w < c.rn)  (W : World) (hG : GlobOk gl W) : S2.Sem (enD0 gl) W 56 (twK twP) (twS c r w a [iS 8 (w + 1)]) (some (some 0)) (twS c r w a [iS 8 (w + 1)]) := by
 have hs1 := sc.2.1
 refine sem_iter (enD0_ok gl) hG (p := (twQ [8])) (fuel := 1000) [false] [(decide (((w + 1 : Nat) : Int) <= (w : Int)), false)] (by kernel_rfl) (by kernel_rfl) ?_
 refine qA ?_ <| qZ
 . exact ob_no (by omega)
theorem two_yes (gl : Gl) (c : Cn) (r : Rf) (w a : Nat) (hc : CnOk gl c) (sc : CnSm gl c) (hw : w < c.rn) (h : skipN (tw2 gl c r w a) (w + 1) 0 = (w + 1)) (W : World) (hG : GlobOk gl W) : S2.Sem (enD0 gl) W 56 (.loop (twK twP)) (twS c r w a [iS 8 0]) (some (some 0)) (twS c r w a [iS 8 (w + 1)]) :=
 sem_loop (E := enD0 gl) (w0 := base0 W) (nb := 0) (nl := 0) (n := 56) (c := (twK twP)) (x := (some (some 0))) (s' := twS c r w a [iS 8 (w + 1)]) (fun z => twS c r w a [iS 8 z]) ((w + 1)) (by simp) (fun z hz => two_step gl c r w a hc sc hw z  hz (skipN_all (tw2 gl c r w a) (w + 1) 0 z (by omega) (by omega)) W hG) (two_end gl c r w a hc sc hw W hG)
theorem two_no (gl : Gl) (c : Cn) (r : Rf) (w a : Nat) (hc : CnOk gl c) (sc : CnSm gl c) (hw : w < c.rn) (h : skipN (tw2 gl c r w a) (w + 1) 0 ≠ (w + 1)) (W : World) (hG : GlobOk gl W) : S2.Sem (enD0 gl) W 56 (.loop (twK twP)) (twS c r w a [iS 8 0]) (some none) (twT) := by
 have g4 := skipN_le (tw2 gl c r w a) (w + 1) 0
 exact sem_loop (E := enD0 gl) (w0 := base0 W) (nb := 0) (nl := 0) (n := 56) (c := (twK twP)) (x := some none) (s' := twT) (fun z => twS c r w a [iS 8 z]) (skipN (tw2 gl c r w a) (w + 1) 0) (by simp) (fun z hz => two_step gl c r w a hc sc hw z  (by omega) (skipN_all (tw2 gl c r w a) (w + 1) 0 z (by omega) hz) W hG) (two_out gl c r w a hc sc hw _  (by omega) (skipN_hit (by omega)) W hG)
end Go.Proofs.Ytmaffamhjmlonaa
