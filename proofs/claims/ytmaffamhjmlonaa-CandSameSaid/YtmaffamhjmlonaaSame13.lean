/- Layer 13: the reference: Same. -/
import Derived.Test.YtmaffamhjmlonaaRefs13
set_option linter.unusedVariables false
set_option linter.unusedSimpArgs false
namespace Go.Proofs.Ytmaffamhjmlonaa
open Go.RowKit Sim S2
def cnB (c : Cn) : S2.Blk := ⟨[.inl ([true], .slice c.ha c.hn c.hc), .inl ([true], .slice c.ra c.rn c.rc)], 25, .cells⟩
def smP : List Nat := [0, 1, 0, 1, 1]
def smI : List Nat := [0, 1, 1, 0, 0, 1]
def smR : List Nat := [0, 1, 0, 1, 1, 1]
noncomputable def smK (p : List Nat) : Code := codeAt (codeOf Try.prog 14) (0 :: p)
def smS (c d : Cn) (l : List (Nat × S2.SV)) : S2.St := { tmps := [(2, .inr (0, 0, none)), (3, .inr (1, 0, none))] ++ l, own := ⟨[cnB c, cnB d], []⟩, lo := 0, llo := 0, mem := true, orc := [], obl := [] }
def iS (k : Nat) (i : Nat) : Nat × S2.SV := (k, .inl ([true], .int .i64 i))
noncomputable def enE (gl : Gl) : S2.Env := enD gl noT (pRefs gl) noL
theorem enE_ok (gl : Gl) : CallOk (enE gl) := enD_ok (.none _ _) pRefs_ok (.none _ _)
def smZ : Pick := { ts := [4], bs := [], ls := [] }
def smQ (l : List Nat) : Pick := { ts := [2, 3] ++ l, bs := [0, 1], ls := [], opn := l }
def smF : S2.St := { tmps := [(4, .inl ([], .bool false))], own := ⟨[], []⟩, lo := 0, llo := 0, mem := true, orc := [], obl := [] }
noncomputable def eqC (gl : Gl) (v u : Value) (k : Nat) : Bool := (rcG gl v k).pc == (rcG gl u k).pc && ((rcG gl v k).val == (rcG gl u k).val && ((rcG gl v k).sh == (rcG gl u k).sh && ((rcG gl v k).sa == (rcG gl u k).sa && true) && ((rcG gl v k).wt == (rcG gl u k).wt && ((rcG gl v k).fl == (rcG gl u k).fl && true))))
noncomputable def hartN (gl : Gl) (v u : Value) : Nat := skipN (eqC gl v u) (lenV v) 0
noncomputable def eqH (gl : Gl) (c d : Cn) (i : Nat) : Bool := Nat.beq (lenV (c.hv gl i)) (lenV (d.hv gl i)) && Nat.beq (hartN gl (c.hv gl i) (d.hv gl i)) (lenV (c.hv gl i))
noncomputable def eqW (gl : Gl) (c d : Cn) (i : Nat) : Bool := raG gl c.r i == raG gl d.r i && refsZ gl (c.rv gl i) (d.rv gl i)
noncomputable def sameB (gl : Gl) (c d : Cn) : Bool := Nat.beq c.hn d.hn && Nat.beq c.rn d.rn && Nat.beq (skipN (eqH gl c d) c.hn 0) c.hn && Nat.beq (skipN (eqW gl c d) c.rn 0) c.rn
theorem sameZ_ex : ∃ f : Gl -> Cn -> Cn -> Bool, ∀ gl c d, f gl c d = sameB gl c d := ⟨_, fun _ _ _ => rfl⟩
noncomputable def sameZ : Gl -> Cn -> Cn -> Bool := Classical.choose sameZ_ex
theorem sameZ_eq (gl : Gl) (c d : Cn) : sameZ gl c d = sameB gl c d := Classical.choose_spec sameZ_ex gl c d
def CnSm (gl : Gl) (c : Cn) : Prop := c.hn <= 9223372036854775807 /\ c.rn <= 9223372036854775807 /\ (∀ i, i < c.hn -> lenV (c.hv gl i) <= 9223372036854775807) /\ ∀ i, i < c.rn -> lenV (c.rv gl i) <= 9223372036854775807
theorem smi_step (gl : Gl) (c d : Cn) (i : Nat) (hc : CnOk gl c) (hd : CnOk gl d) (sc : CnSm gl c) (hi : i < c.hn) (hj : i < d.hn) (hl : lenV (c.hv gl i) = lenV (d.hv gl i)) (k : Nat) (hk : k < lenV (c.hv gl i)) (h : eqC gl (c.hv gl i) (d.hv gl i) k = true) (w : World) (hG : GlobOk gl w) : S2.Sem (enE gl) w 107 (smK (smI ++ (0 :: smP))) (smS c d [iS 5 i, iS 6 k]) none (smS c d [iS 5 i, iS 6 (k + 1)]) := by
 have hs := sc.2.2.1 i hi
 have hs1 := sc.1
 refine sem_iter (enE_ok gl) hG (p := (smQ [5, 6])) (fuel := 1000) [true, false] [(pre (inI ((k : Int) + 1)), true), (!eqC gl (c.hv gl i) (d.hv gl i) k, false), (pre (rowB gl (d.hv gl i) (rcE gl (d.hv gl i))), true), (pre (decide (k < (lenV (d.hv gl i)))), true), (pre (rowB gl (d.hv gl i) (rcE gl (d.hv gl i))), true), (pre (idxB ((k : Int)) (lenV (d.hv gl i))), true), (pre (rowB gl d.h (hsE gl d.h)), true), (pre (decide (i < d.hn)), true), (pre (rowB gl d.h (hsE gl d.h)), true), (pre (idxB ((i : Int)) d.hn), true), (pre (rowB gl (c.hv gl i) (rcE gl (c.hv gl i))), true), (pre (decide (k < (lenV (c.hv gl i)))), true), (pre (rowB gl (c.hv gl i) (rcE gl (c.hv gl i))), true), (pre (idxB ((k : Int)) (lenV (c.hv gl i))), true), (pre (rowB gl c.h (hsE gl c.h)), true), (pre (decide (i < c.hn)), true), (pre (rowB gl c.h (hsE gl c.h)), true), (pre (idxB ((i : Int)) c.hn), true), (decide ((k : Int) < ((lenV (c.hv gl i) : Nat) : Int)), true), (pre (rowB gl (c.hv gl i) (rcE gl (c.hv gl i))), true), (pre (rowB gl c.h (hsE gl c.h)), true), (pre (decide (i < c.hn)), true), (pre (rowB gl c.h (hsE gl c.h)), true), (pre (idxB ((i : Int)) c.hn), true)] (by kernel_rfl) (by kernel_rfl) ?_
 refine qF ?_ ?_ ?_ ?_ <| qF ?_ ?_ ?_ ?_ <| qF ?_ ?_ ?_ ?_ <| qF ?_ ?_ ?_ ?_ <| qF ?_ ?_ ?_ ?_ <| qF ?_ ?_ ?_ ?_ <| qZ
 . exact ob_inI (by omega)
 . rw [h]; rfl
 . exact rowB_ok.mpr (by first | exact hc.hs | exact hd.hs | exact hc.rw | exact hd.rw | exact hc.rc _ (by omega) | exact hd.rc _ (by omega) | exact hc.rf _ (by omega) | exact hd.rf _ (by omega))
 . exact ob_lt (by omega)
 . exact rowB_ok.mpr (by first | exact hc.hs | exact hd.hs | exact hc.rw | exact hd.rw | exact hc.rc _ (by omega) | exact hd.rc _ (by omega) | exact hc.rf _ (by omega) | exact hd.rf _ (by omega))
 . exact ob_idx (by omega)
 . exact rowB_ok.mpr (by first | exact hc.hs | exact hd.hs | exact hc.rw | exact hd.rw | exact hc.rc _ (by omega) | exact hd.rc _ (by omega) | exact hc.rf _ (by omega) | exact hd.rf _ (by omega))
 . exact ob_lt (by omega)
 . exact rowB_ok.mpr (by first | exact hc.hs | exact hd.hs | exact hc.rw | exact hd.rw | exact hc.rc _ (by omega) | exact hd.rc _ (by omega) | exact hc.rf _ (by omega) | exact hd.rf _ (by omega))
 . exact ob_idx (by omega)
 . exact rowB_ok.mpr (by first | exact hc.hs | exact hd.hs | exact hc.rw | exact hd.rw | exact hc.rc _ (by omega) | exact hd.rc _ (by omega) | exact hc.rf _ (by omega) | exact hd.rf _ (by omega))
 . exact ob_lt (by omega)
 . exact rowB_ok.mpr (by first | exact hc.hs | exact hd.hs | exact hc.rw | exact hd.rw | exact hc.rc _ (by omega) | exact hd.rc _ (by omega) | exact hc.rf _ (by omega) | exact hd.rf _ (by omega))
 . exact ob_idx (by omega)
 . exact rowB_ok.mpr (by first | exact hc.hs | exact hd.hs | exact hc.rw | exact hd.rw | exact hc.rc _ (by omega) | exact hd.rc _ (by omega) | exact hc.rf _ (by omega) | exact hd.rf _ (by omega))
 . exact ob_lt (by omega)
 . exact rowB_ok.mpr (by first | exact hc.hs | exact hd.hs | exact hc.rw | exact hd.rw | exact hc.rc _ (by omega) | exact hd.rc _ (by omega) | exact hc.rf _ (by omega) | exact hd.rf _ (by omega))
 . exact ob_idx (by omega)
 . exact ob_yes (by omega)
 . exact rowB_ok.mpr (by first | exact hc.hs | exact hd.hs | exact hc.rw | exact hd.rw | exact hc.rc _ (by omega) | exact hd.rc _ (by omega) | exact hc.rf _ (by omega) | exact hd.rf _ (by omega))
 . exact rowB_ok.mpr (by first | exact hc.hs | exact hd.hs | exact hc.rw | exact hd.rw | exact hc.rc _ (by omega) | exact hd.rc _ (by omega) | exact hc.rf _ (by omega) | exact hd.rf _ (by omega))
 . exact ob_lt (by omega)
 . exact rowB_ok.mpr (by first | exact hc.hs | exact hd.hs | exact hc.rw | exact hd.rw | exact hc.rc _ (by omega) | exact hd.rc _ (by omega) | exact hc.rf _ (by omega) | exact hd.rf _ (by omega))
 . exact ob_idx (by omega)
theorem smi_out (gl : Gl) (c d : Cn) (i : Nat) (hc : CnOk gl c) (hd : CnOk gl d) (sc : CnSm gl c) (hi : i < c.hn) (hj : i < d.hn) (hl : lenV (c.hv gl i) = lenV (d.hv gl i)) (k : Nat) (hk : k < lenV (c.hv gl i)) (h : eqC gl (c.hv gl i) (d.hv gl i) k = false) (w : World) (hG : GlobOk gl w) : S2.Sem (enE gl) w 107 (smK (smI ++ (0 :: smP))) (smS c d [iS 5 i, iS 6 k]) (some none) (smF) := by
 have hs := sc.2.2.1 i hi
 have hs1 := sc.1
 refine sem_iter (enE_ok gl) hG (p := smZ) (fuel := 1000) [true, true] [(!eqC gl (c.hv gl i) (d.hv gl i) k, true), (pre (rowB gl (d.hv gl i) (rcE gl (d.hv gl i))), true), (pre (decide (k < (lenV (d.hv gl i)))), true), (pre (rowB gl (d.hv gl i) (rcE gl (d.hv gl i))), true), (pre (idxB ((k : Int)) (lenV (d.hv gl i))), true), (pre (rowB gl d.h (hsE gl d.h)), true), (pre (decide (i < d.hn)), true), (pre (rowB gl d.h (hsE gl d.h)), true), (pre (idxB ((i : Int)) d.hn), true), (pre (rowB gl (c.hv gl i) (rcE gl (c.hv gl i))), true), (pre (decide (k < (lenV (c.hv gl i)))), true), (pre (rowB gl (c.hv gl i) (rcE gl (c.hv gl i))), true), (pre (idxB ((k : Int)) (lenV (c.hv gl i))), true), (pre (rowB gl c.h (hsE gl c.h)), true), (pre (decide (i < c.hn)), true), (pre (rowB gl c.h (hsE gl c.h)), true), (pre (idxB ((i : Int)) c.hn), true), (decide ((k : Int) < ((lenV (c.hv gl i) : Nat) : Int)), true), (pre (rowB gl (c.hv gl i) (rcE gl (c.hv gl i))), true), (pre (rowB gl c.h (hsE gl c.h)), true), (pre (decide (i < c.hn)), true), (pre (rowB gl c.h (hsE gl c.h)), true), (pre (idxB ((i : Int)) c.hn), true)] (by kernel_rfl) (by kernel_rfl) ?_
 refine qF ?_ ?_ ?_ ?_ <| qF ?_ ?_ ?_ ?_ <| qF ?_ ?_ ?_ ?_ <| qF ?_ ?_ ?_ ?_ <| qF ?_ ?_ ?_ ?_ <| qA ?_ <| qA ?_ <| qA ?_ <| qZ
 . rw [h]; rfl
 . exact rowB_ok.mpr (by first | exact hc.hs | exact hd.hs | exact hc.rw | exact hd.rw | exact hc.rc _ (by omega) | exact hd.rc _ (by omega) | exact hc.rf _ (by omega) | exact hd.rf _ (by omega))
 . exact ob_lt (by omega)
 . exact rowB_ok.mpr (by first | exact hc.hs | exact hd.hs | exact hc.rw | exact hd.rw | exact hc.rc _ (by omega) | exact hd.rc _ (by omega) | exact hc.rf _ (by omega) | exact hd.rf _ (by omega))
 . exact ob_idx (by omega)
 . exact rowB_ok.mpr (by first | exact hc.hs | exact hd.hs | exact hc.rw | exact hd.rw | exact hc.rc _ (by omega) | exact hd.rc _ (by omega) | exact hc.rf _ (by omega) | exact hd.rf _ (by omega))
 . exact ob_lt (by omega)
 . exact rowB_ok.mpr (by first | exact hc.hs | exact hd.hs | exact hc.rw | exact hd.rw | exact hc.rc _ (by omega) | exact hd.rc _ (by omega) | exact hc.rf _ (by omega) | exact hd.rf _ (by omega))
 . exact ob_idx (by omega)
 . exact rowB_ok.mpr (by first | exact hc.hs | exact hd.hs | exact hc.rw | exact hd.rw | exact hc.rc _ (by omega) | exact hd.rc _ (by omega) | exact hc.rf _ (by omega) | exact hd.rf _ (by omega))
 . exact ob_lt (by omega)
 . exact rowB_ok.mpr (by first | exact hc.hs | exact hd.hs | exact hc.rw | exact hd.rw | exact hc.rc _ (by omega) | exact hd.rc _ (by omega) | exact hc.rf _ (by omega) | exact hd.rf _ (by omega))
 . exact ob_idx (by omega)
 . exact rowB_ok.mpr (by first | exact hc.hs | exact hd.hs | exact hc.rw | exact hd.rw | exact hc.rc _ (by omega) | exact hd.rc _ (by omega) | exact hc.rf _ (by omega) | exact hd.rf _ (by omega))
 . exact ob_lt (by omega)
 . exact rowB_ok.mpr (by first | exact hc.hs | exact hd.hs | exact hc.rw | exact hd.rw | exact hc.rc _ (by omega) | exact hd.rc _ (by omega) | exact hc.rf _ (by omega) | exact hd.rf _ (by omega))
 . exact ob_idx (by omega)
 . exact ob_yes (by omega)
 . exact rowB_ok.mpr (by first | exact hc.hs | exact hd.hs | exact hc.rw | exact hd.rw | exact hc.rc _ (by omega) | exact hd.rc _ (by omega) | exact hc.rf _ (by omega) | exact hd.rf _ (by omega))
 . exact rowB_ok.mpr (by first | exact hc.hs | exact hd.hs | exact hc.rw | exact hd.rw | exact hc.rc _ (by omega) | exact hd.rc _ (by omega) | exact hc.rf _ (by omega) | exact hd.rf _ (by omega))
 . exact ob_lt (by omega)
 . exact rowB_ok.mpr (by first | exact hc.hs | exact hd.hs | exact hc.rw | exact hd.rw | exact hc.rc _ (by omega) | exact hd.rc _ (by omega) | exact hc.rf _ (by omega) | exact hd.rf _ (by omega))
 . exact ob_idx (by omega)
theorem smi_end (gl : Gl) (c d : Cn) (i : Nat) (hc : CnOk gl c) (hd : CnOk gl d) (sc : CnSm gl c) (hi : i < c.hn) (hj : i < d.hn) (hl : lenV (c.hv gl i) = lenV (d.hv gl i))  (w : World) (hG : GlobOk gl w) : S2.Sem (enE gl) w 107 (smK (smI ++ (0 :: smP))) (smS c d [iS 5 i, iS 6 (lenV (c.hv gl i))]) (some (some 2)) (smS c d [iS 5 i, iS 6 (lenV (c.hv gl i))]) := by
 have hs := sc.2.2.1 i hi
 have hs1 := sc.1
 refine sem_iter (enE_ok gl) hG (p := (smQ [5, 6])) (fuel := 1000) [false] [(decide (((lenV (c.hv gl i) : Nat) : Int) < ((lenV (c.hv gl i) : Nat) : Int)), false), (pre (rowB gl (c.hv gl i) (rcE gl (c.hv gl i))), true), (pre (rowB gl c.h (hsE gl c.h)), true), (pre (decide (i < c.hn)), true), (pre (rowB gl c.h (hsE gl c.h)), true), (pre (idxB ((i : Int)) c.hn), true)] (by kernel_rfl) (by kernel_rfl) ?_
 refine qF ?_ ?_ ?_ ?_ <| qA ?_ <| qA ?_ <| qZ
 . exact ob_no (by omega)
 . exact rowB_ok.mpr (by first | exact hc.hs | exact hd.hs | exact hc.rw | exact hd.rw | exact hc.rc _ (by omega) | exact hd.rc _ (by omega) | exact hc.rf _ (by omega) | exact hd.rf _ (by omega))
 . exact rowB_ok.mpr (by first | exact hc.hs | exact hd.hs | exact hc.rw | exact hd.rw | exact hc.rc _ (by omega) | exact hd.rc _ (by omega) | exact hc.rf _ (by omega) | exact hd.rf _ (by omega))
 . exact ob_lt (by omega)
 . exact rowB_ok.mpr (by first | exact hc.hs | exact hd.hs | exact hc.rw | exact hd.rw | exact hc.rc _ (by omega) | exact hd.rc _ (by omega) | exact hc.rf _ (by omega) | exact hd.rf _ (by omega))
 . exact ob_idx (by omega)
theorem smi_yes (gl : Gl) (c d : Cn) (i : Nat) (hc : CnOk gl c) (hd : CnOk gl d) (sc : CnSm gl c) (hi : i < c.hn) (hj : i < d.hn) (hl : lenV (c.hv gl i) = lenV (d.hv gl i)) (h : skipN (eqC gl (c.hv gl i) (d.hv gl i)) (lenV (c.hv gl i)) 0 = (lenV (c.hv gl i))) (w : World) (hG : GlobOk gl w) : S2.Sem (enE gl) w 107 (.loop (smK (smI ++ (0 :: smP)))) (smS c d [iS 5 i, iS 6 0]) (some (some 2)) (smS c d [iS 5 i, iS 6 (lenV (c.hv gl i))]) :=
 sem_loop (E := enE gl) (w0 := base0 w) (nb := 0) (nl := 0) (n := 107) (c := (smK (smI ++ (0 :: smP)))) (x := (some (some 2))) (s' := smS c d [iS 5 i, iS 6 (lenV (c.hv gl i))]) (fun z => smS c d [iS 5 i, iS 6 z]) ((lenV (c.hv gl i))) (by simp) (fun z hz => smi_step gl c d i hc hd sc hi hj hl z  hz (skipN_all (eqC gl (c.hv gl i) (d.hv gl i)) (lenV (c.hv gl i)) 0 z (by omega) (by omega)) w hG) (smi_end gl c d i hc hd sc hi hj hl w hG)
theorem smi_no (gl : Gl) (c d : Cn) (i : Nat) (hc : CnOk gl c) (hd : CnOk gl d) (sc : CnSm gl c) (hi : i < c.hn) (hj : i < d.hn) (hl : lenV (c.hv gl i) = lenV (d.hv gl i)) (h : skipN (eqC gl (c.hv gl i) (d.hv gl i)) (lenV (c.hv gl i)) 0 ≠ (lenV (c.hv gl i))) (w : World) (hG : GlobOk gl w) : S2.Sem (enE gl) w 107 (.loop (smK (smI ++ (0 :: smP)))) (smS c d [iS 5 i, iS 6 0]) (some none) (smF) := by
 have g4 := skipN_le (eqC gl (c.hv gl i) (d.hv gl i)) (lenV (c.hv gl i)) 0
 exact sem_loop (E := enE gl) (w0 := base0 w) (nb := 0) (nl := 0) (n := 107) (c := (smK (smI ++ (0 :: smP)))) (x := some none) (s' := smF) (fun z => smS c d [iS 5 i, iS 6 z]) (skipN (eqC gl (c.hv gl i) (d.hv gl i)) (lenV (c.hv gl i)) 0) (by simp) (fun z hz => smi_step gl c d i hc hd sc hi hj hl z  (by omega) (skipN_all (eqC gl (c.hv gl i) (d.hv gl i)) (lenV (c.hv gl i)) 0 z (by omega) hz) w hG) (smi_out gl c d i hc hd sc hi hj hl _  (by omega) (skipN_hit (by omega)) w hG)
theorem smo_a (gl : Gl) (c d : Cn) (hc : CnOk gl c) (hd : CnOk gl d) (sc : CnSm gl c) (hh : c.hn = d.hn) (i : Nat) (hi : i < c.hn) (hl : lenV (c.hv gl i) = lenV (d.hv gl i)) (h : skipN (eqC gl (c.hv gl i) (d.hv gl i)) (lenV (c.hv gl i)) 0 = lenV (c.hv gl i)) (w : World) (hG : GlobOk gl w) : S2.Sem (enE gl) w 107 (smK smP) (smS c d [iS 5 i]) none (smS c d [iS 5 (i + 1)]) := by
 have hs1 := sc.1
 refine sem_iterP (enE_ok gl) hG (fuel := 1000) (d := 30) (p := (smQ [5])) [⟨smI, smQ [5, 6], some (some 2), (smS c d [iS 5 i, iS 6 (lenV (c.hv gl i))])⟩] [true, false] [(pre (inI ((i : Int) + 1)), true), (((lenV (c.hv gl i) : Nat) : Int) != ((lenV (d.hv gl i) : Nat) : Int), false), (pre (rowB gl (d.hv gl i) (rcE gl (d.hv gl i))), true), (pre (rowB gl d.h (hsE gl d.h)), true), (pre (decide (i < d.hn)), true), (pre (rowB gl d.h (hsE gl d.h)), true), (pre (idxB ((i : Int)) d.hn), true), (pre (rowB gl (c.hv gl i) (rcE gl (c.hv gl i))), true), (pre (rowB gl c.h (hsE gl c.h)), true), (pre (decide (i < c.hn)), true), (pre (rowB gl c.h (hsE gl c.h)), true), (pre (idxB ((i : Int)) c.hn), true), (decide ((i : Int) < (c.hn : Int)), true), (pre (rowB gl c.h (hsE gl c.h)), true)] [⟨.loop (smK (smI ++ (0 :: smP))), smS c d [iS 5 i, iS 6 0], some (some 2), (smS c d [iS 5 i, iS 6 (lenV (c.hv gl i))])⟩] (by kernel_rfl) (by kernel_rfl) ?_ (fun t ht => by obtain rfl := List.mem_singleton.mp ht; exact smi_yes gl c d i hc hd sc hi (by omega) hl h w hG)
 refine qF ?_ ?_ ?_ ?_ <| qF ?_ ?_ ?_ ?_ <| qF ?_ ?_ ?_ ?_ <| qA ?_ <| qA ?_ <| qZ
 . exact ob_inI (by omega)
 . rw [hl]; simp
 . exact rowB_ok.mpr (by first | exact hc.hs | exact hd.hs | exact hc.rw | exact hd.rw | exact hc.rc _ (by omega) | exact hd.rc _ (by omega) | exact hc.rf _ (by omega) | exact hd.rf _ (by omega))
 . exact rowB_ok.mpr (by first | exact hc.hs | exact hd.hs | exact hc.rw | exact hd.rw | exact hc.rc _ (by omega) | exact hd.rc _ (by omega) | exact hc.rf _ (by omega) | exact hd.rf _ (by omega))
 . exact ob_lt (by omega)
 . exact rowB_ok.mpr (by first | exact hc.hs | exact hd.hs | exact hc.rw | exact hd.rw | exact hc.rc _ (by omega) | exact hd.rc _ (by omega) | exact hc.rf _ (by omega) | exact hd.rf _ (by omega))
 . exact ob_idx (by omega)
 . exact rowB_ok.mpr (by first | exact hc.hs | exact hd.hs | exact hc.rw | exact hd.rw | exact hc.rc _ (by omega) | exact hd.rc _ (by omega) | exact hc.rf _ (by omega) | exact hd.rf _ (by omega))
 . exact rowB_ok.mpr (by first | exact hc.hs | exact hd.hs | exact hc.rw | exact hd.rw | exact hc.rc _ (by omega) | exact hd.rc _ (by omega) | exact hc.rf _ (by omega) | exact hd.rf _ (by omega))
 . exact ob_lt (by omega)
 . exact rowB_ok.mpr (by first | exact hc.hs | exact hd.hs | exact hc.rw | exact hd.rw | exact hc.rc _ (by omega) | exact hd.rc _ (by omega) | exact hc.rf _ (by omega) | exact hd.rf _ (by omega))
 . exact ob_idx (by omega)
 . exact ob_yes (by omega)
 . exact rowB_ok.mpr (by first | exact hc.hs | exact hd.hs | exact hc.rw | exact hd.rw | exact hc.rc _ (by omega) | exact hd.rc _ (by omega) | exact hc.rf _ (by omega) | exact hd.rf _ (by omega))
theorem smo_b (gl : Gl) (c d : Cn) (hc : CnOk gl c) (hd : CnOk gl d) (sc : CnSm gl c) (hh : c.hn = d.hn) (i : Nat) (hi : i < c.hn) (hl : lenV (c.hv gl i) = lenV (d.hv gl i)) (h : skipN (eqC gl (c.hv gl i) (d.hv gl i)) (lenV (c.hv gl i)) 0 ≠ lenV (c.hv gl i)) (w : World) (hG : GlobOk gl w) : S2.Sem (enE gl) w 107 (smK smP) (smS c d [iS 5 i]) (some none) (smF) := by
 have hs1 := sc.1
 refine sem_iterP (enE_ok gl) hG (fuel := 1000) (d := 30) (p := smZ) [⟨smI, smQ [5, 6], some none, smF⟩] [true, false] [(((lenV (c.hv gl i) : Nat) : Int) != ((lenV (d.hv gl i) : Nat) : Int), false), (pre (rowB gl (d.hv gl i) (rcE gl (d.hv gl i))), true), (pre (rowB gl d.h (hsE gl d.h)), true), (pre (decide (i < d.hn)), true), (pre (rowB gl d.h (hsE gl d.h)), true), (pre (idxB ((i : Int)) d.hn), true), (pre (rowB gl (c.hv gl i) (rcE gl (c.hv gl i))), true), (pre (rowB gl c.h (hsE gl c.h)), true), (pre (decide (i < c.hn)), true), (pre (rowB gl c.h (hsE gl c.h)), true), (pre (idxB ((i : Int)) c.hn), true), (decide ((i : Int) < (c.hn : Int)), true), (pre (rowB gl c.h (hsE gl c.h)), true)] [⟨.loop (smK (smI ++ (0 :: smP))), smS c d [iS 5 i, iS 6 0], some none, smF⟩] (by kernel_rfl) (by kernel_rfl) ?_ (fun t ht => by obtain rfl := List.mem_singleton.mp ht; exact smi_no gl c d i hc hd sc hi (by omega) hl h w hG)
 refine qF ?_ ?_ ?_ ?_ <| qF ?_ ?_ ?_ ?_ <| qF ?_ ?_ ?_ ?_ <| qA ?_ <| qZ
 . rw [hl]; simp
 . exact rowB_ok.mpr (by first | exact hc.hs | exact hd.hs | exact hc.rw | exact hd.rw | exact hc.rc _ (by omega) | exact hd.rc _ (by omega) | exact hc.rf _ (by omega) | exact hd.rf _ (by omega))
 . exact rowB_ok.mpr (by first | exact hc.hs | exact hd.hs | exact hc.rw | exact hd.rw | exact hc.rc _ (by omega) | exact hd.rc _ (by omega) | exact hc.rf _ (by omega) | exact hd.rf _ (by omega))
 . exact ob_lt (by omega)
 . exact rowB_ok.mpr (by first | exact hc.hs | exact hd.hs | exact hc.rw | exact hd.rw | exact hc.rc _ (by omega) | exact hd.rc _ (by omega) | exact hc.rf _ (by omega) | exact hd.rf _ (by omega))
 . exact ob_idx (by omega)
 . exact rowB_ok.mpr (by first | exact hc.hs | exact hd.hs | exact hc.rw | exact hd.rw | exact hc.rc _ (by omega) | exact hd.rc _ (by omega) | exact hc.rf _ (by omega) | exact hd.rf _ (by omega))
 . exact rowB_ok.mpr (by first | exact hc.hs | exact hd.hs | exact hc.rw | exact hd.rw | exact hc.rc _ (by omega) | exact hd.rc _ (by omega) | exact hc.rf _ (by omega) | exact hd.rf _ (by omega))
 . exact ob_lt (by omega)
 . exact rowB_ok.mpr (by first | exact hc.hs | exact hd.hs | exact hc.rw | exact hd.rw | exact hc.rc _ (by omega) | exact hd.rc _ (by omega) | exact hc.rf _ (by omega) | exact hd.rf _ (by omega))
 . exact ob_idx (by omega)
 . exact ob_yes (by omega)
 . exact rowB_ok.mpr (by first | exact hc.hs | exact hd.hs | exact hc.rw | exact hd.rw | exact hc.rc _ (by omega) | exact hd.rc _ (by omega) | exact hc.rf _ (by omega) | exact hd.rf _ (by omega))
theorem smo_c (gl : Gl) (c d : Cn) (hc : CnOk gl c) (hd : CnOk gl d) (sc : CnSm gl c) (hh : c.hn = d.hn) (i : Nat) (hi : i < c.hn) (hl : lenV (c.hv gl i) ≠ lenV (d.hv gl i)) (w : World) (hG : GlobOk gl w) : S2.Sem (enE gl) w 107 (smK smP) (smS c d [iS 5 i]) (some none) (smF) := by
 have hs1 := sc.1
 refine sem_iter (enE_ok gl) hG (p := smZ) (fuel := 1000) [true, true] [(((lenV (c.hv gl i) : Nat) : Int) != ((lenV (d.hv gl i) : Nat) : Int), true), (pre (rowB gl (d.hv gl i) (rcE gl (d.hv gl i))), true), (pre (rowB gl d.h (hsE gl d.h)), true), (pre (decide (i < d.hn)), true), (pre (rowB gl d.h (hsE gl d.h)), true), (pre (idxB ((i : Int)) d.hn), true), (pre (rowB gl (c.hv gl i) (rcE gl (c.hv gl i))), true), (pre (rowB gl c.h (hsE gl c.h)), true), (pre (decide (i < c.hn)), true), (pre (rowB gl c.h (hsE gl c.h)), true), (pre (idxB ((i : Int)) c.hn), true), (decide ((i : Int) < (c.hn : Int)), true), (pre (rowB gl c.h (hsE gl c.h)), true)] (by kernel_rfl) (by kernel_rfl) ?_
 refine qF ?_ ?_ ?_ ?_ <| qF ?_ ?_ ?_ ?_ <| qF ?_ ?_ ?_ ?_ <| qA ?_ <| qZ
 . rw [bne_iff_ne]; omega
 . exact rowB_ok.mpr (by first | exact hc.hs | exact hd.hs | exact hc.rw | exact hd.rw | exact hc.rc _ (by omega) | exact hd.rc _ (by omega) | exact hc.rf _ (by omega) | exact hd.rf _ (by omega))
 . exact rowB_ok.mpr (by first | exact hc.hs | exact hd.hs | exact hc.rw | exact hd.rw | exact hc.rc _ (by omega) | exact hd.rc _ (by omega) | exact hc.rf _ (by omega) | exact hd.rf _ (by omega))
 . exact ob_lt (by omega)
 . exact rowB_ok.mpr (by first | exact hc.hs | exact hd.hs | exact hc.rw | exact hd.rw | exact hc.rc _ (by omega) | exact hd.rc _ (by omega) | exact hc.rf _ (by omega) | exact hd.rf _ (by omega))
 . exact ob_idx (by omega)
 . exact rowB_ok.mpr (by first | exact hc.hs | exact hd.hs | exact hc.rw | exact hd.rw | exact hc.rc _ (by omega) | exact hd.rc _ (by omega) | exact hc.rf _ (by omega) | exact hd.rf _ (by omega))
 . exact rowB_ok.mpr (by first | exact hc.hs | exact hd.hs | exact hc.rw | exact hd.rw | exact hc.rc _ (by omega) | exact hd.rc _ (by omega) | exact hc.rf _ (by omega) | exact hd.rf _ (by omega))
 . exact ob_lt (by omega)
 . exact rowB_ok.mpr (by first | exact hc.hs | exact hd.hs | exact hc.rw | exact hd.rw | exact hc.rc _ (by omega) | exact hd.rc _ (by omega) | exact hc.rf _ (by omega) | exact hd.rf _ (by omega))
 . exact ob_idx (by omega)
 . exact ob_yes (by omega)
 . exact rowB_ok.mpr (by first | exact hc.hs | exact hd.hs | exact hc.rw | exact hd.rw | exact hc.rc _ (by omega) | exact hd.rc _ (by omega) | exact hc.rf _ (by omega) | exact hd.rf _ (by omega))
theorem smo_step (gl : Gl) (c d : Cn) (hc : CnOk gl c) (hd : CnOk gl d) (sc : CnSm gl c) (hh : c.hn = d.hn) (i : Nat) (hi : i < c.hn) (h : eqH gl c d i = true) (w : World) (hG : GlobOk gl w) : S2.Sem (enE gl) w 107 (smK smP) (smS c d [iS 5 i]) none (smS c d [iS 5 (i + 1)]) := by
 unfold eqH hartN at h
 rw [Bool.and_eq_true] at h
 exact smo_a gl c d hc hd sc hh i hi (qB h.1) (qB h.2) w hG
theorem smo_out (gl : Gl) (c d : Cn) (hc : CnOk gl c) (hd : CnOk gl d) (sc : CnSm gl c) (hh : c.hn = d.hn) (i : Nat) (hi : i < c.hn) (h : eqH gl c d i = false) (w : World) (hG : GlobOk gl w) : S2.Sem (enE gl) w 107 (smK smP) (smS c d [iS 5 i]) (some none) smF := by
 unfold eqH hartN at h
 by_cases h1 : lenV (c.hv gl i) = lenV (d.hv gl i)
 . refine smo_b gl c d hc hd sc hh i hi h1 (fun h2 => ?_) w hG
   rw [h2, <- h1, Nat.beq_refl] at h; cases h
 . exact smo_c gl c d hc hd sc hh i hi h1 w hG
theorem smo_end (gl : Gl) (c d : Cn) (hc : CnOk gl c) (hd : CnOk gl d) (sc : CnSm gl c) (hh : c.hn = d.hn)  (w : World) (hG : GlobOk gl w) : S2.Sem (enE gl) w 107 (smK smP) (smS c d [iS 5 c.hn]) (some (some 0)) (smS c d [iS 5 c.hn]) := by
 refine sem_iter (enE_ok gl) hG (p := (smQ [5])) (fuel := 1000) [false] [(decide ((c.hn : Int) < (c.hn : Int)), false), (pre (rowB gl c.h (hsE gl c.h)), true)] (by kernel_rfl) (by kernel_rfl) ?_
 refine qA ?_ <| qA ?_ <| qZ
 . exact ob_no (by omega)
 . exact rowB_ok.mpr (by first | exact hc.hs | exact hd.hs | exact hc.rw | exact hd.rw | exact hc.rc _ (by omega) | exact hd.rc _ (by omega) | exact hc.rf _ (by omega) | exact hd.rf _ (by omega))
theorem smo_yes (gl : Gl) (c d : Cn) (hc : CnOk gl c) (hd : CnOk gl d) (sc : CnSm gl c) (hh : c.hn = d.hn) (h : skipN (eqH gl c d) c.hn 0 = c.hn) (w : World) (hG : GlobOk gl w) : S2.Sem (enE gl) w 107 (.loop (smK smP)) (smS c d [iS 5 0]) (some (some 0)) (smS c d [iS 5 c.hn]) :=
 sem_loop (E := enE gl) (w0 := base0 w) (nb := 0) (nl := 0) (n := 107) (c := (smK smP)) (x := (some (some 0))) (s' := smS c d [iS 5 c.hn]) (fun z => smS c d [iS 5 z]) (c.hn) (by simp) (fun z hz => smo_step gl c d hc hd sc hh z  hz (skipN_all (eqH gl c d) c.hn 0 z (by omega) (by omega)) w hG) (smo_end gl c d hc hd sc hh w hG)
theorem smo_no (gl : Gl) (c d : Cn) (hc : CnOk gl c) (hd : CnOk gl d) (sc : CnSm gl c) (hh : c.hn = d.hn) (h : skipN (eqH gl c d) c.hn 0 ≠ c.hn) (w : World) (hG : GlobOk gl w) : S2.Sem (enE gl) w 107 (.loop (smK smP)) (smS c d [iS 5 0]) (some none) (smF) := by
 have g4 := skipN_le (eqH gl c d) c.hn 0
 exact sem_loop (E := enE gl) (w0 := base0 w) (nb := 0) (nl := 0) (n := 107) (c := (smK smP)) (x := some none) (s' := smF) (fun z => smS c d [iS 5 z]) (skipN (eqH gl c d) c.hn 0) (by simp) (fun z hz => smo_step gl c d hc hd sc hh z  (by omega) (skipN_all (eqH gl c d) c.hn 0 z (by omega) hz) w hG) (smo_out gl c d hc hd sc hh _  (by omega) (skipN_hit (by omega)) w hG)
theorem smr_a (gl : Gl) (c d : Cn) (hc : CnOk gl c) (hd : CnOk gl d) (sc : CnSm gl c) (hh : c.rn = d.rn) (i : Nat) (hi : i < c.rn) (h1 : (raG gl c.r i == raG gl d.r i) = true) (h2 : refsZ gl (c.rv gl i) (d.rv gl i) = true) (w : World) (hG : GlobOk gl w) : S2.Sem (enE gl) w 107 (smK smR) (smS c d [iS 7 i]) none (smS c d [iS 7 (i + 1)]) := by
 have hs1 := sc.2.1
 refine sem_iter (enE_ok gl) hG (p := (smQ [7])) (fuel := 1000) [true, false, false] [(pre (inI ((i : Int) + 1)), true), (!refsZ gl (c.rv gl i) (d.rv gl i), false), (pre (propB (rfsOk gl (c.rv gl i) /\ rowG gl (d.rv gl i) (rfE gl (d.rv gl i)))), true), (pre (rowB gl d.r (rwE gl d.r)), true), (pre (decide (i < d.rn)), true), (pre (rowB gl d.r (rwE gl d.r)), true), (pre (decide (i < d.rn)), true), (pre (rowB gl d.r (rwE gl d.r)), true), (pre (idxB ((i : Int)) d.rn), true), (pre (rowB gl c.r (rwE gl c.r)), true), (pre (decide (i < c.rn)), true), (pre (rowB gl c.r (rwE gl c.r)), true), (pre (decide (i < c.rn)), true), (pre (rowB gl c.r (rwE gl c.r)), true), (pre (idxB ((i : Int)) c.rn), true), (raG gl c.r i != raG gl d.r i, false), (pre (rowB gl d.r (rwE gl d.r)), true), (pre (decide (i < d.rn)), true), (pre (rowB gl d.r (rwE gl d.r)), true), (pre (decide (i < d.rn)), true), (pre (rowB gl d.r (rwE gl d.r)), true), (pre (idxB ((i : Int)) d.rn), true), (pre (rowB gl c.r (rwE gl c.r)), true), (pre (decide (i < c.rn)), true), (pre (rowB gl c.r (rwE gl c.r)), true), (pre (decide (i < c.rn)), true), (pre (rowB gl c.r (rwE gl c.r)), true), (pre (idxB ((i : Int)) c.rn), true), (decide ((i : Int) < (c.rn : Int)), true), (pre (rowB gl c.r (rwE gl c.r)), true)] (by kernel_rfl) (by kernel_rfl) ?_
 refine qF ?_ ?_ ?_ ?_ <| qF ?_ ?_ ?_ ?_ <| qF ?_ ?_ ?_ ?_ <| qF ?_ ?_ ?_ ?_ <| qF ?_ ?_ ?_ ?_ <| qF ?_ ?_ ?_ ?_ <| qF ?_ ?_ ?_ ?_ <| qA ?_ <| qA ?_ <| qZ
 . exact ob_inI (by omega)
 . rw [h2]; rfl
 . exact propB_ok.mpr ⟨⟨hc.rf _ (by omega), sc.2.2.2 _ (by omega)⟩, hd.rf _ (by omega)⟩
 . exact rowB_ok.mpr (by first | exact hc.hs | exact hd.hs | exact hc.rw | exact hd.rw | exact hc.rc _ (by omega) | exact hd.rc _ (by omega) | exact hc.rf _ (by omega) | exact hd.rf _ (by omega))
 . exact ob_lt (by omega)
 . exact rowB_ok.mpr (by first | exact hc.hs | exact hd.hs | exact hc.rw | exact hd.rw | exact hc.rc _ (by omega) | exact hd.rc _ (by omega) | exact hc.rf _ (by omega) | exact hd.rf _ (by omega))
 . exact ob_lt (by omega)
 . exact rowB_ok.mpr (by first | exact hc.hs | exact hd.hs | exact hc.rw | exact hd.rw | exact hc.rc _ (by omega) | exact hd.rc _ (by omega) | exact hc.rf _ (by omega) | exact hd.rf _ (by omega))
 . exact ob_idx (by omega)
 . exact rowB_ok.mpr (by first | exact hc.hs | exact hd.hs | exact hc.rw | exact hd.rw | exact hc.rc _ (by omega) | exact hd.rc _ (by omega) | exact hc.rf _ (by omega) | exact hd.rf _ (by omega))
 . exact ob_lt (by omega)
 . exact rowB_ok.mpr (by first | exact hc.hs | exact hd.hs | exact hc.rw | exact hd.rw | exact hc.rc _ (by omega) | exact hd.rc _ (by omega) | exact hc.rf _ (by omega) | exact hd.rf _ (by omega))
 . exact ob_lt (by omega)
 . exact rowB_ok.mpr (by first | exact hc.hs | exact hd.hs | exact hc.rw | exact hd.rw | exact hc.rc _ (by omega) | exact hd.rc _ (by omega) | exact hc.rf _ (by omega) | exact hd.rf _ (by omega))
 . exact ob_idx (by omega)
 . unfold bne; rw [h1]; rfl
 . exact rowB_ok.mpr (by first | exact hc.hs | exact hd.hs | exact hc.rw | exact hd.rw | exact hc.rc _ (by omega) | exact hd.rc _ (by omega) | exact hc.rf _ (by omega) | exact hd.rf _ (by omega))
 . exact ob_lt (by omega)
 . exact rowB_ok.mpr (by first | exact hc.hs | exact hd.hs | exact hc.rw | exact hd.rw | exact hc.rc _ (by omega) | exact hd.rc _ (by omega) | exact hc.rf _ (by omega) | exact hd.rf _ (by omega))
 . exact ob_lt (by omega)
 . exact rowB_ok.mpr (by first | exact hc.hs | exact hd.hs | exact hc.rw | exact hd.rw | exact hc.rc _ (by omega) | exact hd.rc _ (by omega) | exact hc.rf _ (by omega) | exact hd.rf _ (by omega))
 . exact ob_idx (by omega)
 . exact rowB_ok.mpr (by first | exact hc.hs | exact hd.hs | exact hc.rw | exact hd.rw | exact hc.rc _ (by omega) | exact hd.rc _ (by omega) | exact hc.rf _ (by omega) | exact hd.rf _ (by omega))
 . exact ob_lt (by omega)
 . exact rowB_ok.mpr (by first | exact hc.hs | exact hd.hs | exact hc.rw | exact hd.rw | exact hc.rc _ (by omega) | exact hd.rc _ (by omega) | exact hc.rf _ (by omega) | exact hd.rf _ (by omega))
 . exact ob_lt (by omega)
 . exact rowB_ok.mpr (by first | exact hc.hs | exact hd.hs | exact hc.rw | exact hd.rw | exact hc.rc _ (by omega) | exact hd.rc _ (by omega) | exact hc.rf _ (by omega) | exact hd.rf _ (by omega))
 . exact ob_idx (by omega)
 . exact ob_yes (by omega)
 . exact rowB_ok.mpr (by first | exact hc.hs | exact hd.hs | exact hc.rw | exact hd.rw | exact hc.rc _ (by omega) | exact hd.rc _ (by omega) | exact hc.rf _ (by omega) | exact hd.rf _ (by omega))
theorem smr_b (gl : Gl) (c d : Cn) (hc : CnOk gl c) (hd : CnOk gl d) (sc : CnSm gl c) (hh : c.rn = d.rn) (i : Nat) (hi : i < c.rn) (h1 : (raG gl c.r i == raG gl d.r i) = true) (h2 : refsZ gl (c.rv gl i) (d.rv gl i) = false) (w : World) (hG : GlobOk gl w) : S2.Sem (enE gl) w 107 (smK smR) (smS c d [iS 7 i]) (some none) (smF) := by
 have hs1 := sc.2.1
 refine sem_iter (enE_ok gl) hG (p := smZ) (fuel := 1000) [true, false, true] [(!refsZ gl (c.rv gl i) (d.rv gl i), true), (pre (propB (rfsOk gl (c.rv gl i) /\ rowG gl (d.rv gl i) (rfE gl (d.rv gl i)))), true), (pre (rowB gl d.r (rwE gl d.r)), true), (pre (decide (i < d.rn)), true), (pre (rowB gl d.r (rwE gl d.r)), true), (pre (decide (i < d.rn)), true), (pre (rowB gl d.r (rwE gl d.r)), true), (pre (idxB ((i : Int)) d.rn), true), (pre (rowB gl c.r (rwE gl c.r)), true), (pre (decide (i < c.rn)), true), (pre (rowB gl c.r (rwE gl c.r)), true), (pre (decide (i < c.rn)), true), (pre (rowB gl c.r (rwE gl c.r)), true), (pre (idxB ((i : Int)) c.rn), true), (raG gl c.r i != raG gl d.r i, false), (pre (rowB gl d.r (rwE gl d.r)), true), (pre (decide (i < d.rn)), true), (pre (rowB gl d.r (rwE gl d.r)), true), (pre (decide (i < d.rn)), true), (pre (rowB gl d.r (rwE gl d.r)), true), (pre (idxB ((i : Int)) d.rn), true), (pre (rowB gl c.r (rwE gl c.r)), true), (pre (decide (i < c.rn)), true), (pre (rowB gl c.r (rwE gl c.r)), true), (pre (decide (i < c.rn)), true), (pre (rowB gl c.r (rwE gl c.r)), true), (pre (idxB ((i : Int)) c.rn), true), (decide ((i : Int) < (c.rn : Int)), true), (pre (rowB gl c.r (rwE gl c.r)), true)] (by kernel_rfl) (by kernel_rfl) ?_
 refine qF ?_ ?_ ?_ ?_ <| qF ?_ ?_ ?_ ?_ <| qF ?_ ?_ ?_ ?_ <| qF ?_ ?_ ?_ ?_ <| qF ?_ ?_ ?_ ?_ <| qF ?_ ?_ ?_ ?_ <| qF ?_ ?_ ?_ ?_ <| qA ?_ <| qZ
 . rw [h2]; rfl
 . exact propB_ok.mpr ⟨⟨hc.rf _ (by omega), sc.2.2.2 _ (by omega)⟩, hd.rf _ (by omega)⟩
 . exact rowB_ok.mpr (by first | exact hc.hs | exact hd.hs | exact hc.rw | exact hd.rw | exact hc.rc _ (by omega) | exact hd.rc _ (by omega) | exact hc.rf _ (by omega) | exact hd.rf _ (by omega))
 . exact ob_lt (by omega)
 . exact rowB_ok.mpr (by first | exact hc.hs | exact hd.hs | exact hc.rw | exact hd.rw | exact hc.rc _ (by omega) | exact hd.rc _ (by omega) | exact hc.rf _ (by omega) | exact hd.rf _ (by omega))
 . exact ob_lt (by omega)
 . exact rowB_ok.mpr (by first | exact hc.hs | exact hd.hs | exact hc.rw | exact hd.rw | exact hc.rc _ (by omega) | exact hd.rc _ (by omega) | exact hc.rf _ (by omega) | exact hd.rf _ (by omega))
 . exact ob_idx (by omega)
 . exact rowB_ok.mpr (by first | exact hc.hs | exact hd.hs | exact hc.rw | exact hd.rw | exact hc.rc _ (by omega) | exact hd.rc _ (by omega) | exact hc.rf _ (by omega) | exact hd.rf _ (by omega))
 . exact ob_lt (by omega)
 . exact rowB_ok.mpr (by first | exact hc.hs | exact hd.hs | exact hc.rw | exact hd.rw | exact hc.rc _ (by omega) | exact hd.rc _ (by omega) | exact hc.rf _ (by omega) | exact hd.rf _ (by omega))
 . exact ob_lt (by omega)
 . exact rowB_ok.mpr (by first | exact hc.hs | exact hd.hs | exact hc.rw | exact hd.rw | exact hc.rc _ (by omega) | exact hd.rc _ (by omega) | exact hc.rf _ (by omega) | exact hd.rf _ (by omega))
 . exact ob_idx (by omega)
 . unfold bne; rw [h1]; rfl
 . exact rowB_ok.mpr (by first | exact hc.hs | exact hd.hs | exact hc.rw | exact hd.rw | exact hc.rc _ (by omega) | exact hd.rc _ (by omega) | exact hc.rf _ (by omega) | exact hd.rf _ (by omega))
 . exact ob_lt (by omega)
 . exact rowB_ok.mpr (by first | exact hc.hs | exact hd.hs | exact hc.rw | exact hd.rw | exact hc.rc _ (by omega) | exact hd.rc _ (by omega) | exact hc.rf _ (by omega) | exact hd.rf _ (by omega))
 . exact ob_lt (by omega)
 . exact rowB_ok.mpr (by first | exact hc.hs | exact hd.hs | exact hc.rw | exact hd.rw | exact hc.rc _ (by omega) | exact hd.rc _ (by omega) | exact hc.rf _ (by omega) | exact hd.rf _ (by omega))
 . exact ob_idx (by omega)
 . exact rowB_ok.mpr (by first | exact hc.hs | exact hd.hs | exact hc.rw | exact hd.rw | exact hc.rc _ (by omega) | exact hd.rc _ (by omega) | exact hc.rf _ (by omega) | exact hd.rf _ (by omega))
 . exact ob_lt (by omega)
 . exact rowB_ok.mpr (by first | exact hc.hs | exact hd.hs | exact hc.rw | exact hd.rw | exact hc.rc _ (by omega) | exact hd.rc _ (by omega) | exact hc.rf _ (by omega) | exact hd.rf _ (by omega))
 . exact ob_lt (by omega)
 . exact rowB_ok.mpr (by first | exact hc.hs | exact hd.hs | exact hc.rw | exact hd.rw | exact hc.rc _ (by omega) | exact hd.rc _ (by omega) | exact hc.rf _ (by omega) | exact hd.rf _ (by omega))
 . exact ob_idx (by omega)
 . exact ob_yes (by omega)
 . exact rowB_ok.mpr (by first | exact hc.hs | exact hd.hs | exact hc.rw | exact hd.rw | exact hc.rc _ (by omega) | exact hd.rc _ (by omega) | exact hc.rf _ (by omega) | exact hd.rf _ (by omega))
theorem smr_c (gl : Gl) (c d : Cn) (hc : CnOk gl c) (hd : CnOk gl d) (sc : CnSm gl c) (hh : c.rn = d.rn) (i : Nat) (hi : i < c.rn) (h1 : (raG gl c.r i == raG gl d.r i) = false) (w : World) (hG : GlobOk gl w) : S2.Sem (enE gl) w 107 (smK smR) (smS c d [iS 7 i]) (some none) (smF) := by
 have hs1 := sc.2.1
 refine sem_iter (enE_ok gl) hG (p := smZ) (fuel := 1000) [true, true] [(raG gl c.r i != raG gl d.r i, true), (pre (rowB gl d.r (rwE gl d.r)), true), (pre (decide (i < d.rn)), true), (pre (rowB gl d.r (rwE gl d.r)), true), (pre (decide (i < d.rn)), true), (pre (rowB gl d.r (rwE gl d.r)), true), (pre (idxB ((i : Int)) d.rn), true), (pre (rowB gl c.r (rwE gl c.r)), true), (pre (decide (i < c.rn)), true), (pre (rowB gl c.r (rwE gl c.r)), true), (pre (decide (i < c.rn)), true), (pre (rowB gl c.r (rwE gl c.r)), true), (pre (idxB ((i : Int)) c.rn), true), (decide ((i : Int) < (c.rn : Int)), true), (pre (rowB gl c.r (rwE gl c.r)), true)] (by kernel_rfl) (by kernel_rfl) ?_
 refine qF ?_ ?_ ?_ ?_ <| qF ?_ ?_ ?_ ?_ <| qF ?_ ?_ ?_ ?_ <| qA ?_ <| qA ?_ <| qA ?_ <| qZ
 . unfold bne; rw [h1]; rfl
 . exact rowB_ok.mpr (by first | exact hc.hs | exact hd.hs | exact hc.rw | exact hd.rw | exact hc.rc _ (by omega) | exact hd.rc _ (by omega) | exact hc.rf _ (by omega) | exact hd.rf _ (by omega))
 . exact ob_lt (by omega)
 . exact rowB_ok.mpr (by first | exact hc.hs | exact hd.hs | exact hc.rw | exact hd.rw | exact hc.rc _ (by omega) | exact hd.rc _ (by omega) | exact hc.rf _ (by omega) | exact hd.rf _ (by omega))
 . exact ob_lt (by omega)
 . exact rowB_ok.mpr (by first | exact hc.hs | exact hd.hs | exact hc.rw | exact hd.rw | exact hc.rc _ (by omega) | exact hd.rc _ (by omega) | exact hc.rf _ (by omega) | exact hd.rf _ (by omega))
 . exact ob_idx (by omega)
 . exact rowB_ok.mpr (by first | exact hc.hs | exact hd.hs | exact hc.rw | exact hd.rw | exact hc.rc _ (by omega) | exact hd.rc _ (by omega) | exact hc.rf _ (by omega) | exact hd.rf _ (by omega))
 . exact ob_lt (by omega)
 . exact rowB_ok.mpr (by first | exact hc.hs | exact hd.hs | exact hc.rw | exact hd.rw | exact hc.rc _ (by omega) | exact hd.rc _ (by omega) | exact hc.rf _ (by omega) | exact hd.rf _ (by omega))
 . exact ob_lt (by omega)
 . exact rowB_ok.mpr (by first | exact hc.hs | exact hd.hs | exact hc.rw | exact hd.rw | exact hc.rc _ (by omega) | exact hd.rc _ (by omega) | exact hc.rf _ (by omega) | exact hd.rf _ (by omega))
 . exact ob_idx (by omega)
 . exact ob_yes (by omega)
 . exact rowB_ok.mpr (by first | exact hc.hs | exact hd.hs | exact hc.rw | exact hd.rw | exact hc.rc _ (by omega) | exact hd.rc _ (by omega) | exact hc.rf _ (by omega) | exact hd.rf _ (by omega))
theorem smr_step (gl : Gl) (c d : Cn) (hc : CnOk gl c) (hd : CnOk gl d) (sc : CnSm gl c) (hh : c.rn = d.rn) (i : Nat) (hi : i < c.rn) (h : eqW gl c d i = true) (w : World) (hG : GlobOk gl w) : S2.Sem (enE gl) w 107 (smK smR) (smS c d [iS 7 i]) none (smS c d [iS 7 (i + 1)]) := by
 unfold eqW at h
 rw [Bool.and_eq_true] at h
 exact smr_a gl c d hc hd sc hh i hi h.1 h.2 w hG
theorem smr_out (gl : Gl) (c d : Cn) (hc : CnOk gl c) (hd : CnOk gl d) (sc : CnSm gl c) (hh : c.rn = d.rn) (i : Nat) (hi : i < c.rn) (h : eqW gl c d i = false) (w : World) (hG : GlobOk gl w) : S2.Sem (enE gl) w 107 (smK smR) (smS c d [iS 7 i]) (some none) smF := by
 unfold eqW at h
 cases h1 : (raG gl c.r i == raG gl d.r i)
 . exact smr_c gl c d hc hd sc hh i hi h1 w hG
 . exact smr_b gl c d hc hd sc hh i hi h1 (by rw [h1] at h; exact h) w hG
theorem smr_end (gl : Gl) (c d : Cn) (hc : CnOk gl c) (hd : CnOk gl d) (sc : CnSm gl c) (hh : c.rn = d.rn)  (w : World) (hG : GlobOk gl w) : S2.Sem (enE gl) w 107 (smK smR) (smS c d [iS 7 c.rn]) (some (some 4)) (smS c d [iS 7 c.rn]) := by
 refine sem_iter (enE_ok gl) hG (p := (smQ [7])) (fuel := 1000) [false] [(decide ((c.rn : Int) < (c.rn : Int)), false), (pre (rowB gl c.r (rwE gl c.r)), true)] (by kernel_rfl) (by kernel_rfl) ?_
 refine qA ?_ <| qA ?_ <| qZ
 . exact ob_no (by omega)
 . exact rowB_ok.mpr (by first | exact hc.hs | exact hd.hs | exact hc.rw | exact hd.rw | exact hc.rc _ (by omega) | exact hd.rc _ (by omega) | exact hc.rf _ (by omega) | exact hd.rf _ (by omega))
theorem smr_yes (gl : Gl) (c d : Cn) (hc : CnOk gl c) (hd : CnOk gl d) (sc : CnSm gl c) (hh : c.rn = d.rn) (h : skipN (eqW gl c d) c.rn 0 = c.rn) (w : World) (hG : GlobOk gl w) : S2.Sem (enE gl) w 107 (.loop (smK smR)) (smS c d [iS 7 0]) (some (some 4)) (smS c d [iS 7 c.rn]) :=
 sem_loop (E := enE gl) (w0 := base0 w) (nb := 0) (nl := 0) (n := 107) (c := (smK smR)) (x := (some (some 4))) (s' := smS c d [iS 7 c.rn]) (fun z => smS c d [iS 7 z]) (c.rn) (by simp) (fun z hz => smr_step gl c d hc hd sc hh z  hz (skipN_all (eqW gl c d) c.rn 0 z (by omega) (by omega)) w hG) (smr_end gl c d hc hd sc hh w hG)
theorem smr_no (gl : Gl) (c d : Cn) (hc : CnOk gl c) (hd : CnOk gl d) (sc : CnSm gl c) (hh : c.rn = d.rn) (h : skipN (eqW gl c d) c.rn 0 ≠ c.rn) (w : World) (hG : GlobOk gl w) : S2.Sem (enE gl) w 107 (.loop (smK smR)) (smS c d [iS 7 0]) (some none) (smF) := by
 have g4 := skipN_le (eqW gl c d) c.rn 0
 exact sem_loop (E := enE gl) (w0 := base0 w) (nb := 0) (nl := 0) (n := 107) (c := (smK smR)) (x := some none) (s' := smF) (fun z => smS c d [iS 7 z]) (skipN (eqW gl c d) c.rn 0) (by simp) (fun z hz => smr_step gl c d hc hd sc hh z  (by omega) (skipN_all (eqW gl c d) c.rn 0 z (by omega) hz) w hG) (smr_out gl c d hc hd sc hh _  (by omega) (skipN_hit (by omega)) w hG)
end Go.Proofs.Ytmaffamhjmlonaa
