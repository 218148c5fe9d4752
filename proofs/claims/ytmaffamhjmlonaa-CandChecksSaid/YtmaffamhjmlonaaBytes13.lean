/- Layer 13: the reference: Bytes. -/
import Derived.Test.YtmaffamhjmlonaaK11
import Derived.Test.YtmaffamhjmlonaaNum13
set_option linter.unusedVariables false
set_option linter.unusedSimpArgs false
namespace Go.Proofs.Ytmaffamhjmlonaa
open Go.RowKit Sim S2
def inE (N : List Int) : LE := ⟨3, 1, N.length, fun j => [.int .i64 ((N[j]?).getD 0)], true, false, true⟩
def apI (N M : List Int) : LE := ⟨3, 1, N.length + M.length, joinE N.length (inE N).el (tabE (M.map fun x => [.int .i64 x])), true, false, true⟩
theorem appI (N M : List Int) : sameE (apI N M) (inE (N ++ M)) := ⟨rfl, rfl, by simp [apI, inE], rfl, rfl, joinB_app (fun i hi => by
   show [Value.int .i64 ((N[i]?).getD 0)] = [Value.int .i64 (((N ++ M)[i]?).getD 0)]
   rw [List.getElem?_append_left hi]) (fun i hi => by
   show ((M.map fun x => [Value.int .i64 x])[i]?).getD [] = [Value.int .i64 (((N ++ M)[N.length + i]?).getD 0)]
   rw [List.getElem?_map, List.getElem?_append_right (by omega), Nat.add_sub_cancel_left, List.getElem?_eq_getElem hi]; rfl)⟩
noncomputable def bsK (p : List Nat) : Code := codeAt (codeOf Try.prog 13) (0 :: p)
def bsE (c : Cn) (e : LE) (l : List (Nat × S2.SV)) : S2.St := { tmps := [(1, .inr (0, 0, none)), (3, .c 0)] ++ l, own := ⟨[cnB c], [e]⟩, lo := 0, llo := 0, mem := true, orc := [], obl := [] }
def bsS (c : Cn) (N : List Int) (l : List (Nat × S2.SV)) : S2.St := bsE c (inE N) l
noncomputable def enG (gl : Gl) : S2.Env := { enD gl noT noP lNum with lit := true }
theorem enG_ok (gl : Gl) : CallOk (enG gl) := enD_ok (.none _ _) (.none _ _) lNum_ok
def bP1 : List Nat := [0, 1, 0, 1, 1]
def bI2 : List Nat := [0, 1, 1, 0, 0, 1]
def bP3 : List Nat := [0, 1, 0, 1, 1, 1, 1]
def bsQ (k : Nat) (l : List Nat) : Pick := { ts := [1, 3] ++ l, bs := [0], ls := [k], opn := l }
def CnBd (gl : Gl) (c : Cn) : Prop := c.hn <= 10000 /\ c.rn <= 10000 /\ (∀ i, i < c.hn -> lenV (c.hv gl i) <= 10000) /\ ∀ i, i < c.rn -> lenV (c.rv gl i) <= 10000
def flI (r : Rc) : Int := bif r.fl then 2 else bif r.wt then 1 else 0
def recL (r : Rc) : List Int := [r.pc, r.val, r.sh, r.sa, flI r]
noncomputable def hrL (gl : Gl) (v : Value) : Nat -> List Int
 | 0 => []
 | k + 1 => hrL gl v k ++ recL (rcG gl v k)
noncomputable def hsL (gl : Gl) (c : Cn) : Nat -> List Int
 | 0 => []
 | i + 1 => hsL gl c i ++ ([(lenV (c.hv gl i) : Int)] ++ hrL gl (c.hv gl i) (lenV (c.hv gl i)))
noncomputable def rrL (gl : Gl) (v : Value) : Nat -> List Int
 | 0 => []
 | k + 1 => rrL gl v k ++ [(rfG gl v k).h, (rfG gl v k).a]
noncomputable def rsL (gl : Gl) (c : Cn) : Nat -> List Int
 | 0 => []
 | i + 1 => rsL gl c i ++ ([raG gl c.r i, (lenV (c.rv gl i) : Int)] ++ rrL gl (c.rv gl i) (lenV (c.rv gl i)))
theorem hrL_len (gl : Gl) (v : Value) : ∀ k, (hrL gl v k).length = 5 * k
 | 0 => rfl
 | k + 1 => by show (hrL gl v k ++ recL _).length = _; rw [List.length_append, hrL_len gl v k]; show 5 * k + 5 = _; omega
theorem rrL_len (gl : Gl) (v : Value) : ∀ k, (rrL gl v k).length = 2 * k
 | 0 => rfl
 | k + 1 => by show (rrL gl v k ++ [_, _]).length = _; rw [List.length_append, rrL_len gl v k]; show 2 * k + 2 = _; omega
theorem hsL_len {gl : Gl} {c : Cn} (h : ∀ i, i < c.hn -> lenV (c.hv gl i) <= 10000) : ∀ i, i <= c.hn -> (hsL gl c i).length <= 50001 * i
 | 0, _ => Nat.le_refl _
 | i + 1, hi => by
   have h1 := hsL_len h i (by omega)
   have h2 := h i (by omega)
   show (hsL gl c i ++ ([_] ++ hrL gl (c.hv gl i) _)).length <= _
   rw [List.length_append, List.length_append, hrL_len]
   show (hsL gl c i).length + (1 + 5 * lenV (c.hv gl i)) <= _
   omega
theorem rsL_len {gl : Gl} {c : Cn} (h : ∀ i, i < c.rn -> lenV (c.rv gl i) <= 10000) : ∀ i, i <= c.rn -> (rsL gl c i).length <= 20002 * i
 | 0, _ => Nat.le_refl _
 | i + 1, hi => by
   have h1 := rsL_len h i (by omega)
   have h2 := h i (by omega)
   show (rsL gl c i ++ ([_, _] ++ rrL gl (c.rv gl i) _)).length <= _
   rw [List.length_append, List.length_append, rrL_len]
   show (rsL gl c i).length + (2 + 2 * lenV (c.rv gl i)) <= _
   omega
theorem bs2_tff (gl : Gl) (c : Cn) (hc : CnOk gl c) (sc : CnBd gl c) (i : Nat) (hi : i < c.hn) (N : List Int) (hN : N.length <= 1000000000) (k : Nat) (hk : k < lenV (c.hv gl i)) (h1 : ((rcG gl (c.hv gl i) k).wt) = false) (h2 : ((rcG gl (c.hv gl i) k).fl) = false) (W : World) (hG : GlobOk gl W) : S2.Sem (enG gl) W 145 (bsK (bI2 ++ (0 :: bP1))) (bsS c N [iS 4 i, iS 5 k]) none (bsE c (apI N [(rcG gl (c.hv gl i) k).pc, (rcG gl (c.hv gl i) k).val, (rcG gl (c.hv gl i) k).sh, (rcG gl (c.hv gl i) k).sa, 0]) [iS 4 i, iS 5 (k + 1)]) := by
 have s1 := sc.1
 have s2 := sc.2.1
 have s3 := sc.2.2.1 i hi
 refine sem_iter (enG_ok gl) hG (p := (bsQ 2 [4, 5])) (fuel := 1000) [true, false, false] [(pre (inI ((k : Int) + 1)), true), (pre (decide (N.length + 5 <= maxLen /\ (N.length + 5) * 8 <= 140737488355328 /\ 0 < 5)), true), ((rcG gl (c.hv gl i) k).fl, false), ((rcG gl (c.hv gl i) k).wt, false), (pre (rowB gl (c.hv gl i) (rcE gl (c.hv gl i))), true), (pre (decide (k < (lenV (c.hv gl i)))), true), (pre (rowB gl (c.hv gl i) (rcE gl (c.hv gl i))), true), (pre (idxB ((k : Int)) (lenV (c.hv gl i))), true), (pre (rowB gl c.h (hsE gl c.h)), true), (pre (decide (i < c.hn)), true), (pre (rowB gl c.h (hsE gl c.h)), true), (pre (idxB ((i : Int)) c.hn), true), (decide ((k : Int) < ((lenV (c.hv gl i) : Nat) : Int)), true), (pre (rowB gl (c.hv gl i) (rcE gl (c.hv gl i))), true), (pre (rowB gl c.h (hsE gl c.h)), true), (pre (decide (i < c.hn)), true), (pre (rowB gl c.h (hsE gl c.h)), true), (pre (idxB ((i : Int)) c.hn), true)] (by kernel_rfl) (by kernel_rfl) ?_
 refine qF ?_ ?_ ?_ ?_ <| qF ?_ ?_ ?_ ?_ <| qF ?_ ?_ ?_ ?_ <| qF ?_ ?_ ?_ ?_ <| qA ?_ <| qA ?_ <| qZ
 . exact ob_inI (by omega)
 . exact ob_app (by omega) (by decide) (by decide)
 . assumption
 . assumption
 . exact rowB_ok.mpr (by first | exact hc.hs | exact hc.rw | exact hc.rc _ (by omega) | exact hc.rf _ (by omega))
 . exact ob_lt (by omega)
 . exact rowB_ok.mpr (by first | exact hc.hs | exact hc.rw | exact hc.rc _ (by omega) | exact hc.rf _ (by omega))
 . exact ob_idx (by omega)
 . exact rowB_ok.mpr (by first | exact hc.hs | exact hc.rw | exact hc.rc _ (by omega) | exact hc.rf _ (by omega))
 . exact ob_lt (by omega)
 . exact rowB_ok.mpr (by first | exact hc.hs | exact hc.rw | exact hc.rc _ (by omega) | exact hc.rf _ (by omega))
 . exact ob_idx (by omega)
 . exact ob_yes (by omega)
 . exact rowB_ok.mpr (by first | exact hc.hs | exact hc.rw | exact hc.rc _ (by omega) | exact hc.rf _ (by omega))
 . exact rowB_ok.mpr (by first | exact hc.hs | exact hc.rw | exact hc.rc _ (by omega) | exact hc.rf _ (by omega))
 . exact ob_lt (by omega)
 . exact rowB_ok.mpr (by first | exact hc.hs | exact hc.rw | exact hc.rc _ (by omega) | exact hc.rf _ (by omega))
 . exact ob_idx (by omega)
theorem bs2_tft (gl : Gl) (c : Cn) (hc : CnOk gl c) (sc : CnBd gl c) (i : Nat) (hi : i < c.hn) (N : List Int) (hN : N.length <= 1000000000) (k : Nat) (hk : k < lenV (c.hv gl i)) (h1 : ((rcG gl (c.hv gl i) k).wt) = false) (h2 : ((rcG gl (c.hv gl i) k).fl) = true) (W : World) (hG : GlobOk gl W) : S2.Sem (enG gl) W 145 (bsK (bI2 ++ (0 :: bP1))) (bsS c N [iS 4 i, iS 5 k]) none (bsE c (apI N [(rcG gl (c.hv gl i) k).pc, (rcG gl (c.hv gl i) k).val, (rcG gl (c.hv gl i) k).sh, (rcG gl (c.hv gl i) k).sa, 2]) [iS 4 i, iS 5 (k + 1)]) := by
 have s1 := sc.1
 have s2 := sc.2.1
 have s3 := sc.2.2.1 i hi
 refine sem_iter (enG_ok gl) hG (p := (bsQ 2 [4, 5])) (fuel := 1000) [true, false, true] [(pre (inI ((k : Int) + 1)), true), (pre (decide (N.length + 5 <= maxLen /\ (N.length + 5) * 8 <= 140737488355328 /\ 0 < 5)), true), ((rcG gl (c.hv gl i) k).fl, true), ((rcG gl (c.hv gl i) k).wt, false), (pre (rowB gl (c.hv gl i) (rcE gl (c.hv gl i))), true), (pre (decide (k < (lenV (c.hv gl i)))), true), (pre (rowB gl (c.hv gl i) (rcE gl (c.hv gl i))), true), (pre (idxB ((k : Int)) (lenV (c.hv gl i))), true), (pre (rowB gl c.h (hsE gl c.h)), true), (pre (decide (i < c.hn)), true), (pre (rowB gl c.h (hsE gl c.h)), true), (pre (idxB ((i : Int)) c.hn), true), (decide ((k : Int) < ((lenV (c.hv gl i) : Nat) : Int)), true), (pre (rowB gl (c.hv gl i) (rcE gl (c.hv gl i))), true), (pre (rowB gl c.h (hsE gl c.h)), true), (pre (decide (i < c.hn)), true), (pre (rowB gl c.h (hsE gl c.h)), true), (pre (idxB ((i : Int)) c.hn), true)] (by kernel_rfl) (by kernel_rfl) ?_
 refine qF ?_ ?_ ?_ ?_ <| qF ?_ ?_ ?_ ?_ <| qF ?_ ?_ ?_ ?_ <| qF ?_ ?_ ?_ ?_ <| qA ?_ <| qA ?_ <| qZ
 . exact ob_inI (by omega)
 . exact ob_app (by omega) (by decide) (by decide)
 . assumption
 . assumption
 . exact rowB_ok.mpr (by first | exact hc.hs | exact hc.rw | exact hc.rc _ (by omega) | exact hc.rf _ (by omega))
 . exact ob_lt (by omega)
 . exact rowB_ok.mpr (by first | exact hc.hs | exact hc.rw | exact hc.rc _ (by omega) | exact hc.rf _ (by omega))
 . exact ob_idx (by omega)
 . exact rowB_ok.mpr (by first | exact hc.hs | exact hc.rw | exact hc.rc _ (by omega) | exact hc.rf _ (by omega))
 . exact ob_lt (by omega)
 . exact rowB_ok.mpr (by first | exact hc.hs | exact hc.rw | exact hc.rc _ (by omega) | exact hc.rf _ (by omega))
 . exact ob_idx (by omega)
 . exact ob_yes (by omega)
 . exact rowB_ok.mpr (by first | exact hc.hs | exact hc.rw | exact hc.rc _ (by omega) | exact hc.rf _ (by omega))
 . exact rowB_ok.mpr (by first | exact hc.hs | exact hc.rw | exact hc.rc _ (by omega) | exact hc.rf _ (by omega))
 . exact ob_lt (by omega)
 . exact rowB_ok.mpr (by first | exact hc.hs | exact hc.rw | exact hc.rc _ (by omega) | exact hc.rf _ (by omega))
 . exact ob_idx (by omega)
theorem bs2_ttf (gl : Gl) (c : Cn) (hc : CnOk gl c) (sc : CnBd gl c) (i : Nat) (hi : i < c.hn) (N : List Int) (hN : N.length <= 1000000000) (k : Nat) (hk : k < lenV (c.hv gl i)) (h1 : ((rcG gl (c.hv gl i) k).wt) = true) (h2 : ((rcG gl (c.hv gl i) k).fl) = false) (W : World) (hG : GlobOk gl W) : S2.Sem (enG gl) W 145 (bsK (bI2 ++ (0 :: bP1))) (bsS c N [iS 4 i, iS 5 k]) none (bsE c (apI N [(rcG gl (c.hv gl i) k).pc, (rcG gl (c.hv gl i) k).val, (rcG gl (c.hv gl i) k).sh, (rcG gl (c.hv gl i) k).sa, 1]) [iS 4 i, iS 5 (k + 1)]) := by
 have s1 := sc.1
 have s2 := sc.2.1
 have s3 := sc.2.2.1 i hi
 refine sem_iter (enG_ok gl) hG (p := (bsQ 2 [4, 5])) (fuel := 1000) [true, true, false] [(pre (inI ((k : Int) + 1)), true), (pre (decide (N.length + 5 <= maxLen /\ (N.length + 5) * 8 <= 140737488355328 /\ 0 < 5)), true), ((rcG gl (c.hv gl i) k).fl, false), ((rcG gl (c.hv gl i) k).wt, true), (pre (rowB gl (c.hv gl i) (rcE gl (c.hv gl i))), true), (pre (decide (k < (lenV (c.hv gl i)))), true), (pre (rowB gl (c.hv gl i) (rcE gl (c.hv gl i))), true), (pre (idxB ((k : Int)) (lenV (c.hv gl i))), true), (pre (rowB gl c.h (hsE gl c.h)), true), (pre (decide (i < c.hn)), true), (pre (rowB gl c.h (hsE gl c.h)), true), (pre (idxB ((i : Int)) c.hn), true), (decide ((k : Int) < ((lenV (c.hv gl i) : Nat) : Int)), true), (pre (rowB gl (c.hv gl i) (rcE gl (c.hv gl i))), true), (pre (rowB gl c.h (hsE gl c.h)), true), (pre (decide (i < c.hn)), true), (pre (rowB gl c.h (hsE gl c.h)), true), (pre (idxB ((i : Int)) c.hn), true)] (by kernel_rfl) (by kernel_rfl) ?_
 refine qF ?_ ?_ ?_ ?_ <| qF ?_ ?_ ?_ ?_ <| qF ?_ ?_ ?_ ?_ <| qF ?_ ?_ ?_ ?_ <| qA ?_ <| qA ?_ <| qZ
 . exact ob_inI (by omega)
 . exact ob_app (by omega) (by decide) (by decide)
 . assumption
 . assumption
 . exact rowB_ok.mpr (by first | exact hc.hs | exact hc.rw | exact hc.rc _ (by omega) | exact hc.rf _ (by omega))
 . exact ob_lt (by omega)
 . exact rowB_ok.mpr (by first | exact hc.hs | exact hc.rw | exact hc.rc _ (by omega) | exact hc.rf _ (by omega))
 . exact ob_idx (by omega)
 . exact rowB_ok.mpr (by first | exact hc.hs | exact hc.rw | exact hc.rc _ (by omega) | exact hc.rf _ (by omega))
 . exact ob_lt (by omega)
 . exact rowB_ok.mpr (by first | exact hc.hs | exact hc.rw | exact hc.rc _ (by omega) | exact hc.rf _ (by omega))
 . exact ob_idx (by omega)
 . exact ob_yes (by omega)
 . exact rowB_ok.mpr (by first | exact hc.hs | exact hc.rw | exact hc.rc _ (by omega) | exact hc.rf _ (by omega))
 . exact rowB_ok.mpr (by first | exact hc.hs | exact hc.rw | exact hc.rc _ (by omega) | exact hc.rf _ (by omega))
 . exact ob_lt (by omega)
 . exact rowB_ok.mpr (by first | exact hc.hs | exact hc.rw | exact hc.rc _ (by omega) | exact hc.rf _ (by omega))
 . exact ob_idx (by omega)
theorem bs2_ttt (gl : Gl) (c : Cn) (hc : CnOk gl c) (sc : CnBd gl c) (i : Nat) (hi : i < c.hn) (N : List Int) (hN : N.length <= 1000000000) (k : Nat) (hk : k < lenV (c.hv gl i)) (h1 : ((rcG gl (c.hv gl i) k).wt) = true) (h2 : ((rcG gl (c.hv gl i) k).fl) = true) (W : World) (hG : GlobOk gl W) : S2.Sem (enG gl) W 145 (bsK (bI2 ++ (0 :: bP1))) (bsS c N [iS 4 i, iS 5 k]) none (bsE c (apI N [(rcG gl (c.hv gl i) k).pc, (rcG gl (c.hv gl i) k).val, (rcG gl (c.hv gl i) k).sh, (rcG gl (c.hv gl i) k).sa, 2]) [iS 4 i, iS 5 (k + 1)]) := by
 have s1 := sc.1
 have s2 := sc.2.1
 have s3 := sc.2.2.1 i hi
 refine sem_iter (enG_ok gl) hG (p := (bsQ 2 [4, 5])) (fuel := 1000) [true, true, true] [(pre (inI ((k : Int) + 1)), true), (pre (decide (N.length + 5 <= maxLen /\ (N.length + 5) * 8 <= 140737488355328 /\ 0 < 5)), true), ((rcG gl (c.hv gl i) k).fl, true), ((rcG gl (c.hv gl i) k).wt, true), (pre (rowB gl (c.hv gl i) (rcE gl (c.hv gl i))), true), (pre (decide (k < (lenV (c.hv gl i)))), true), (pre (rowB gl (c.hv gl i) (rcE gl (c.hv gl i))), true), (pre (idxB ((k : Int)) (lenV (c.hv gl i))), true), (pre (rowB gl c.h (hsE gl c.h)), true), (pre (decide (i < c.hn)), true), (pre (rowB gl c.h (hsE gl c.h)), true), (pre (idxB ((i : Int)) c.hn), true), (decide ((k : Int) < ((lenV (c.hv gl i) : Nat) : Int)), true), (pre (rowB gl (c.hv gl i) (rcE gl (c.hv gl i))), true), (pre (rowB gl c.h (hsE gl c.h)), true), (pre (decide (i < c.hn)), true), (pre (rowB gl c.h (hsE gl c.h)), true), (pre (idxB ((i : Int)) c.hn), true)] (by kernel_rfl) (by kernel_rfl) ?_
 refine qF ?_ ?_ ?_ ?_ <| qF ?_ ?_ ?_ ?_ <| qF ?_ ?_ ?_ ?_ <| qF ?_ ?_ ?_ ?_ <| qA ?_ <| qA ?_ <| qZ
 . exact ob_inI (by omega)
 . exact ob_app (by omega) (by decide) (by decide)
 . assumption
 . assumption
 . exact rowB_ok.mpr (by first | exact hc.hs | exact hc.rw | exact hc.rc _ (by omega) | exact hc.rf _ (by omega))
 . exact ob_lt (by omega)
 . exact rowB_ok.mpr (by first | exact hc.hs | exact hc.rw | exact hc.rc _ (by omega) | exact hc.rf _ (by omega))
 . exact ob_idx (by omega)
 . exact rowB_ok.mpr (by first | exact hc.hs | exact hc.rw | exact hc.rc _ (by omega) | exact hc.rf _ (by omega))
 . exact ob_lt (by omega)
 . exact rowB_ok.mpr (by first | exact hc.hs | exact hc.rw | exact hc.rc _ (by omega) | exact hc.rf _ (by omega))
 . exact ob_idx (by omega)
 . exact ob_yes (by omega)
 . exact rowB_ok.mpr (by first | exact hc.hs | exact hc.rw | exact hc.rc _ (by omega) | exact hc.rf _ (by omega))
 . exact rowB_ok.mpr (by first | exact hc.hs | exact hc.rw | exact hc.rc _ (by omega) | exact hc.rf _ (by omega))
 . exact ob_lt (by omega)
 . exact rowB_ok.mpr (by first | exact hc.hs | exact hc.rw | exact hc.rc _ (by omega) | exact hc.rf _ (by omega))
 . exact ob_idx (by omega)
theorem bs2_step (gl : Gl) (c : Cn) (hc : CnOk gl c) (sc : CnBd gl c) (i : Nat) (hi : i < c.hn) (N : List Int) (hN : N.length <= 1000000000) (k : Nat) (hk : k < lenV (c.hv gl i)) (W : World) (hG : GlobOk gl W) : S2.Sem (enG gl) W 145 (bsK (bI2 ++ (0 :: bP1))) (bsS c N [iS 4 i, iS 5 k]) none (bsS c (N ++ recL (rcG gl (c.hv gl i) k)) [iS 4 i, iS 5 (k + 1)]) := by
 have key : ∀ x, flI (rcG gl (c.hv gl i) k) = x -> S2.Sem (enG gl) W 145 (bsK (bI2 ++ (0 :: bP1))) (bsS c N [iS 4 i, iS 5 k]) none (bsE c (apI N [(rcG gl (c.hv gl i) k).pc, (rcG gl (c.hv gl i) k).val, (rcG gl (c.hv gl i) k).sh, (rcG gl (c.hv gl i) k).sa, x]) [iS 4 i, iS 5 (k + 1)]) -> S2.Sem (enG gl) W 145 (bsK (bI2 ++ (0 :: bP1))) (bsS c N [iS 4 i, iS 5 k]) none (bsS c (N ++ recL (rcG gl (c.hv gl i) k)) [iS 4 i, iS 5 (k + 1)]) := fun x hx h => by
   subst hx
   exact h.same rfl rfl ⟨appI N (recL (rcG gl (c.hv gl i) k)), trivial⟩ rfl
 cases h1 : (rcG gl (c.hv gl i) k).wt <;> cases h2 : (rcG gl (c.hv gl i) k).fl
 . exact key 0 (by unfold flI; rw [h1, h2]; rfl) (bs2_tff gl c hc sc i hi N hN k hk h1 h2 W hG)
 . exact key 2 (by unfold flI; rw [h2]; rfl) (bs2_tft gl c hc sc i hi N hN k hk h1 h2 W hG)
 . exact key 1 (by unfold flI; rw [h1, h2]; rfl) (bs2_ttf gl c hc sc i hi N hN k hk h1 h2 W hG)
 . exact key 2 (by unfold flI; rw [h2]; rfl) (bs2_ttt gl c hc sc i hi N hN k hk h1 h2 W hG)
theorem bs2_end (gl : Gl) (c : Cn) (hc : CnOk gl c) (sc : CnBd gl c) (i : Nat) (hi : i < c.hn) (N : List Int) (W : World) (hG : GlobOk gl W) : S2.Sem (enG gl) W 145 (bsK (bI2 ++ (0 :: bP1))) (bsS c N [iS 4 i, iS 5 (lenV (c.hv gl i))]) (some (some 2)) (bsS c N [iS 4 i, iS 5 (lenV (c.hv gl i))]) := by
 refine sem_iter (enG_ok gl) hG (p := (bsQ 0 [4, 5])) (fuel := 1000) [false] [(decide ((((lenV (c.hv gl i)) : Nat) : Int) < ((lenV (c.hv gl i) : Nat) : Int)), false), (pre (rowB gl (c.hv gl i) (rcE gl (c.hv gl i))), true), (pre (rowB gl c.h (hsE gl c.h)), true), (pre (decide (i < c.hn)), true), (pre (rowB gl c.h (hsE gl c.h)), true), (pre (idxB ((i : Int)) c.hn), true)] (by kernel_rfl) (by kernel_rfl) ?_
 refine qF ?_ ?_ ?_ ?_ <| qA ?_ <| qA ?_ <| qZ
 . exact ob_no (by omega)
 . exact rowB_ok.mpr (by first | exact hc.hs | exact hc.rw | exact hc.rc _ (by omega) | exact hc.rf _ (by omega))
 . exact rowB_ok.mpr (by first | exact hc.hs | exact hc.rw | exact hc.rc _ (by omega) | exact hc.rf _ (by omega))
 . exact ob_lt (by omega)
 . exact rowB_ok.mpr (by first | exact hc.hs | exact hc.rw | exact hc.rc _ (by omega) | exact hc.rf _ (by omega))
 . exact ob_idx (by omega)
theorem bs2_all (gl : Gl) (c : Cn) (hc : CnOk gl c) (sc : CnBd gl c) (i : Nat) (hi : i < c.hn) (N : List Int) (hN : N.length <= 900000000) (W : World) (hG : GlobOk gl W) : S2.Sem (enG gl) W 145 (.loop (bsK (bI2 ++ (0 :: bP1)))) (bsS c N [iS 4 i, iS 5 0]) (some (some 2)) (bsS c (N ++ hrL gl (c.hv gl i) (lenV (c.hv gl i))) [iS 4 i, iS 5 (lenV (c.hv gl i))]) := by
 have s3 := sc.2.2.1 i hi
 have hl := sem_loop (E := enG gl) (w0 := base0 W) (nb := 0) (nl := 0) (n := 145) (c := (bsK (bI2 ++ (0 :: bP1)))) (x := some (some 2)) (s' := bsS c (N ++ hrL gl (c.hv gl i) (lenV (c.hv gl i))) [iS 4 i, iS 5 (lenV (c.hv gl i))]) (fun k => bsS c (N ++ hrL gl (c.hv gl i) k) [iS 4 i, iS 5 k]) (lenV (c.hv gl i)) (by simp) (fun k hk => by
   have := bs2_step gl c hc sc i hi (N ++ hrL gl (c.hv gl i) k) (by rw [List.length_append, hrL_len]; omega) k hk W hG
   rw [List.append_assoc] at this
   exact this) (bs2_end gl c hc sc i hi (N ++ hrL gl (c.hv gl i) (lenV (c.hv gl i))) W hG)
 rw [show N ++ hrL gl (c.hv gl i) 0 = N from List.append_nil N] at hl
 exact hl
theorem bs1_step (gl : Gl) (c : Cn) (hc : CnOk gl c) (sc : CnBd gl c) (i : Nat) (hi : i < c.hn) (N : List Int) (hN : N.length <= 800000000) (W : World) (hG : GlobOk gl W) : S2.Sem (enG gl) W 145 (bsK bP1) (bsS c N [iS 4 i]) none (bsS c ((N ++ [(lenV (c.hv gl i) : Int)]) ++ hrL gl (c.hv gl i) (lenV (c.hv gl i))) [iS 4 (i + 1)]) := by
 have s1 := sc.1
 have s2 := sc.2.1
 have s3 := sc.2.2.1 i hi
 refine sem_iterP (enG_ok gl) hG (fuel := 1000) (d := 30) (p := (bsQ 0 [4])) [⟨bI2, bsQ 2 [4, 5], some (some 2), bsS c ((N ++ [(lenV (c.hv gl i) : Int)]) ++ hrL gl (c.hv gl i) (lenV (c.hv gl i))) [iS 4 i, iS 5 (lenV (c.hv gl i))]⟩] [true] [(pre (inI ((i : Int) + 1)), true), (pre (decide (N.length + 1 <= maxLen /\ (N.length + 1) * 8 <= 140737488355328 /\ 0 < 1)), true), (pre (rowB gl (c.hv gl i) (rcE gl (c.hv gl i))), true), (pre (rowB gl c.h (hsE gl c.h)), true), (pre (decide (i < c.hn)), true), (pre (rowB gl c.h (hsE gl c.h)), true), (pre (idxB ((i : Int)) c.hn), true), (decide ((i : Int) < (c.hn : Int)), true), (pre (rowB gl c.h (hsE gl c.h)), true)] [⟨.loop (bsK (bI2 ++ (0 :: bP1))), bsE c (apI N [(lenV (c.hv gl i) : Int)]) [iS 4 i, iS 5 0], some (some 2), bsS c ((N ++ [(lenV (c.hv gl i) : Int)]) ++ hrL gl (c.hv gl i) (lenV (c.hv gl i))) [iS 4 i, iS 5 (lenV (c.hv gl i))]⟩] (by kernel_rfl) (by kernel_rfl) ?_ (fun t ht => by obtain rfl := List.mem_singleton.mp ht; exact (bs2_all gl c hc sc i hi (N ++ [(lenV (c.hv gl i) : Int)]) (by rw [List.length_append]; show N.length + 1 <= _; omega) W hG).alike rfl rfl ⟨appI N [(lenV (c.hv gl i) : Int)], trivial⟩ rfl)
 refine qF ?_ ?_ ?_ ?_ <| qF ?_ ?_ ?_ ?_ <| qA ?_ <| qZ
 . exact ob_inI (by omega)
 . exact ob_app (by omega) (by decide) (by decide)
 . exact rowB_ok.mpr (by first | exact hc.hs | exact hc.rw | exact hc.rc _ (by omega) | exact hc.rf _ (by omega))
 . exact rowB_ok.mpr (by first | exact hc.hs | exact hc.rw | exact hc.rc _ (by omega) | exact hc.rf _ (by omega))
 . exact ob_lt (by omega)
 . exact rowB_ok.mpr (by first | exact hc.hs | exact hc.rw | exact hc.rc _ (by omega) | exact hc.rf _ (by omega))
 . exact ob_idx (by omega)
 . exact ob_yes (by omega)
 . exact rowB_ok.mpr (by first | exact hc.hs | exact hc.rw | exact hc.rc _ (by omega) | exact hc.rf _ (by omega))
theorem bs1_end (gl : Gl) (c : Cn) (hc : CnOk gl c) (sc : CnBd gl c) (N : List Int) (W : World) (hG : GlobOk gl W) : S2.Sem (enG gl) W 145 (bsK bP1) (bsS c N [iS 4 c.hn]) (some (some 0)) (bsS c N [iS 4 c.hn]) := by
 refine sem_iter (enG_ok gl) hG (p := (bsQ 0 [4])) (fuel := 1000) [false] [(decide (((c.hn : Nat) : Int) < (c.hn : Int)), false), (pre (rowB gl c.h (hsE gl c.h)), true)] (by kernel_rfl) (by kernel_rfl) ?_
 refine qA ?_ <| qA ?_ <| qZ
 . exact ob_no (by omega)
 . exact rowB_ok.mpr (by first | exact hc.hs | exact hc.rw | exact hc.rc _ (by omega) | exact hc.rf _ (by omega))
theorem bs1_all (gl : Gl) (c : Cn) (hc : CnOk gl c) (sc : CnBd gl c) (N : List Int) (hN : N.length <= 1000) (W : World) (hG : GlobOk gl W) : S2.Sem (enG gl) W 145 (.loop (bsK bP1)) (bsS c N [iS 4 0]) (some (some 0)) (bsS c (N ++ hsL gl c c.hn) [iS 4 c.hn]) := by
 have s1 := sc.1
 have hl := sem_loop (E := enG gl) (w0 := base0 W) (nb := 0) (nl := 0) (n := 145) (c := (bsK bP1)) (x := some (some 0)) (s' := bsS c (N ++ hsL gl c c.hn) [iS 4 c.hn]) (fun i => bsS c (N ++ hsL gl c i) [iS 4 i]) c.hn (by simp) (fun i hi => by
   have h1 := hsL_len sc.2.2.1 i (by omega)
   have := bs1_step gl c hc sc i hi (N ++ hsL gl c i) (by rw [List.length_append]; omega) W hG
   rw [List.append_assoc, List.append_assoc] at this
   exact this) (bs1_end gl c hc sc (N ++ hsL gl c c.hn) W hG)
 rw [show N ++ hsL gl c 0 = N from List.append_nil N] at hl
 exact hl
theorem bs4_t (gl : Gl) (c : Cn) (hc : CnOk gl c) (sc : CnBd gl c) (i : Nat) (hi : i < c.rn) (N : List Int) (hN : N.length <= 1000000000) (k : Nat) (hk : k < lenV (c.rv gl i)) (W : World) (hG : GlobOk gl W) : S2.Sem (enG gl) W 145 (bsK (bI2 ++ (0 :: bP3))) (bsS c N [iS 8 i, iS 9 k]) none (bsE c (apI N [(rfG gl (c.rv gl i) k).h, (rfG gl (c.rv gl i) k).a]) [iS 8 i, iS 9 (k + 1)]) := by
 have s1 := sc.1
 have s2 := sc.2.1
 have s3 := sc.2.2.2 i hi
 refine sem_iter (enG_ok gl) hG (p := (bsQ 2 [8, 9])) (fuel := 1000) [true] [(pre (inI ((k : Int) + 1)), true), (pre (decide (N.length + 2 <= maxLen /\ (N.length + 2) * 8 <= 140737488355328 /\ 0 < 2)), true), (pre (rowB gl (c.rv gl i) (rfE gl (c.rv gl i))), true), (pre (decide (k < (lenV (c.rv gl i)))), true), (pre (rowB gl (c.rv gl i) (rfE gl (c.rv gl i))), true), (pre (decide (k < (lenV (c.rv gl i)))), true), (pre (rowB gl (c.rv gl i) (rfE gl (c.rv gl i))), true), (pre (idxB ((k : Int)) (lenV (c.rv gl i))), true), (pre (rowB gl c.r (rwE gl c.r)), true), (pre (decide (i < c.rn)), true), (pre (rowB gl c.r (rwE gl c.r)), true), (pre (decide (i < c.rn)), true), (pre (rowB gl c.r (rwE gl c.r)), true), (pre (idxB ((i : Int)) c.rn), true), (pre (rowB gl (c.rv gl i) (rfE gl (c.rv gl i))), true), (pre (decide (k < (lenV (c.rv gl i)))), true), (pre (rowB gl (c.rv gl i) (rfE gl (c.rv gl i))), true), (pre (decide (k < (lenV (c.rv gl i)))), true), (pre (rowB gl (c.rv gl i) (rfE gl (c.rv gl i))), true), (pre (idxB ((k : Int)) (lenV (c.rv gl i))), true), (pre (rowB gl c.r (rwE gl c.r)), true), (pre (decide (i < c.rn)), true), (pre (rowB gl c.r (rwE gl c.r)), true), (pre (decide (i < c.rn)), true), (pre (rowB gl c.r (rwE gl c.r)), true), (pre (idxB ((i : Int)) c.rn), true), (decide ((k : Int) < ((lenV (c.rv gl i) : Nat) : Int)), true), (pre (rowB gl (c.rv gl i) (rfE gl (c.rv gl i))), true), (pre (rowB gl c.r (rwE gl c.r)), true), (pre (decide (i < c.rn)), true), (pre (rowB gl c.r (rwE gl c.r)), true), (pre (decide (i < c.rn)), true), (pre (rowB gl c.r (rwE gl c.r)), true), (pre (idxB ((i : Int)) c.rn), true)] (by kernel_rfl) (by kernel_rfl) ?_
 refine qF ?_ ?_ ?_ ?_ <| qF ?_ ?_ ?_ ?_ <| qF ?_ ?_ ?_ ?_ <| qF ?_ ?_ ?_ ?_ <| qF ?_ ?_ ?_ ?_ <| qF ?_ ?_ ?_ ?_ <| qF ?_ ?_ ?_ ?_ <| qF ?_ ?_ ?_ ?_ <| qA ?_ <| qA ?_ <| qZ
 . exact ob_inI (by omega)
 . exact ob_app (by omega) (by decide) (by decide)
 . exact rowB_ok.mpr (by first | exact hc.hs | exact hc.rw | exact hc.rc _ (by omega) | exact hc.rf _ (by omega))
 . exact ob_lt (by omega)
 . exact rowB_ok.mpr (by first | exact hc.hs | exact hc.rw | exact hc.rc _ (by omega) | exact hc.rf _ (by omega))
 . exact ob_lt (by omega)
 . exact rowB_ok.mpr (by first | exact hc.hs | exact hc.rw | exact hc.rc _ (by omega) | exact hc.rf _ (by omega))
 . exact ob_idx (by omega)
 . exact rowB_ok.mpr (by first | exact hc.hs | exact hc.rw | exact hc.rc _ (by omega) | exact hc.rf _ (by omega))
 . exact ob_lt (by omega)
 . exact rowB_ok.mpr (by first | exact hc.hs | exact hc.rw | exact hc.rc _ (by omega) | exact hc.rf _ (by omega))
 . exact ob_lt (by omega)
 . exact rowB_ok.mpr (by first | exact hc.hs | exact hc.rw | exact hc.rc _ (by omega) | exact hc.rf _ (by omega))
 . exact ob_idx (by omega)
 . exact rowB_ok.mpr (by first | exact hc.hs | exact hc.rw | exact hc.rc _ (by omega) | exact hc.rf _ (by omega))
 . exact ob_lt (by omega)
 . exact rowB_ok.mpr (by first | exact hc.hs | exact hc.rw | exact hc.rc _ (by omega) | exact hc.rf _ (by omega))
 . exact ob_lt (by omega)
 . exact rowB_ok.mpr (by first | exact hc.hs | exact hc.rw | exact hc.rc _ (by omega) | exact hc.rf _ (by omega))
 . exact ob_idx (by omega)
 . exact rowB_ok.mpr (by first | exact hc.hs | exact hc.rw | exact hc.rc _ (by omega) | exact hc.rf _ (by omega))
 . exact ob_lt (by omega)
 . exact rowB_ok.mpr (by first | exact hc.hs | exact hc.rw | exact hc.rc _ (by omega) | exact hc.rf _ (by omega))
 . exact ob_lt (by omega)
 . exact rowB_ok.mpr (by first | exact hc.hs | exact hc.rw | exact hc.rc _ (by omega) | exact hc.rf _ (by omega))
 . exact ob_idx (by omega)
 . exact ob_yes (by omega)
 . exact rowB_ok.mpr (by first | exact hc.hs | exact hc.rw | exact hc.rc _ (by omega) | exact hc.rf _ (by omega))
 . exact rowB_ok.mpr (by first | exact hc.hs | exact hc.rw | exact hc.rc _ (by omega) | exact hc.rf _ (by omega))
 . exact ob_lt (by omega)
 . exact rowB_ok.mpr (by first | exact hc.hs | exact hc.rw | exact hc.rc _ (by omega) | exact hc.rf _ (by omega))
 . exact ob_lt (by omega)
 . exact rowB_ok.mpr (by first | exact hc.hs | exact hc.rw | exact hc.rc _ (by omega) | exact hc.rf _ (by omega))
 . exact ob_idx (by omega)
theorem bs4_step (gl : Gl) (c : Cn) (hc : CnOk gl c) (sc : CnBd gl c) (i : Nat) (hi : i < c.rn) (N : List Int) (hN : N.length <= 1000000000) (k : Nat) (hk : k < lenV (c.rv gl i)) (W : World) (hG : GlobOk gl W) : S2.Sem (enG gl) W 145 (bsK (bI2 ++ (0 :: bP3))) (bsS c N [iS 8 i, iS 9 k]) none (bsS c (N ++ [(rfG gl (c.rv gl i) k).h, (rfG gl (c.rv gl i) k).a]) [iS 8 i, iS 9 (k + 1)]) := (bs4_t gl c hc sc i hi N hN k hk W hG).same rfl rfl ⟨appI N [(rfG gl (c.rv gl i) k).h, (rfG gl (c.rv gl i) k).a], trivial⟩ rfl
theorem bs4_end (gl : Gl) (c : Cn) (hc : CnOk gl c) (sc : CnBd gl c) (i : Nat) (hi : i < c.rn) (N : List Int) (W : World) (hG : GlobOk gl W) : S2.Sem (enG gl) W 145 (bsK (bI2 ++ (0 :: bP3))) (bsS c N [iS 8 i, iS 9 (lenV (c.rv gl i))]) (some (some 6)) (bsS c N [iS 8 i, iS 9 (lenV (c.rv gl i))]) := by
 refine sem_iter (enG_ok gl) hG (p := (bsQ 0 [8, 9])) (fuel := 1000) [false] [(decide ((((lenV (c.rv gl i)) : Nat) : Int) < ((lenV (c.rv gl i) : Nat) : Int)), false), (pre (rowB gl (c.rv gl i) (rfE gl (c.rv gl i))), true), (pre (rowB gl c.r (rwE gl c.r)), true), (pre (decide (i < c.rn)), true), (pre (rowB gl c.r (rwE gl c.r)), true), (pre (decide (i < c.rn)), true), (pre (rowB gl c.r (rwE gl c.r)), true), (pre (idxB ((i : Int)) c.rn), true)] (by kernel_rfl) (by kernel_rfl) ?_
 refine qF ?_ ?_ ?_ ?_ <| qF ?_ ?_ ?_ ?_ <| qZ
 . exact ob_no (by omega)
 . exact rowB_ok.mpr (by first | exact hc.hs | exact hc.rw | exact hc.rc _ (by omega) | exact hc.rf _ (by omega))
 . exact rowB_ok.mpr (by first | exact hc.hs | exact hc.rw | exact hc.rc _ (by omega) | exact hc.rf _ (by omega))
 . exact ob_lt (by omega)
 . exact rowB_ok.mpr (by first | exact hc.hs | exact hc.rw | exact hc.rc _ (by omega) | exact hc.rf _ (by omega))
 . exact ob_lt (by omega)
 . exact rowB_ok.mpr (by first | exact hc.hs | exact hc.rw | exact hc.rc _ (by omega) | exact hc.rf _ (by omega))
 . exact ob_idx (by omega)
theorem bs4_all (gl : Gl) (c : Cn) (hc : CnOk gl c) (sc : CnBd gl c) (i : Nat) (hi : i < c.rn) (N : List Int) (hN : N.length <= 990000000) (W : World) (hG : GlobOk gl W) : S2.Sem (enG gl) W 145 (.loop (bsK (bI2 ++ (0 :: bP3)))) (bsS c N [iS 8 i, iS 9 0]) (some (some 6)) (bsS c (N ++ rrL gl (c.rv gl i) (lenV (c.rv gl i))) [iS 8 i, iS 9 (lenV (c.rv gl i))]) := by
 have s3 := sc.2.2.2 i hi
 have hl := sem_loop (E := enG gl) (w0 := base0 W) (nb := 0) (nl := 0) (n := 145) (c := (bsK (bI2 ++ (0 :: bP3)))) (x := some (some 6)) (s' := bsS c (N ++ rrL gl (c.rv gl i) (lenV (c.rv gl i))) [iS 8 i, iS 9 (lenV (c.rv gl i))]) (fun k => bsS c (N ++ rrL gl (c.rv gl i) k) [iS 8 i, iS 9 k]) (lenV (c.rv gl i)) (by simp) (fun k hk => by
   have := bs4_step gl c hc sc i hi (N ++ rrL gl (c.rv gl i) k) (by rw [List.length_append, rrL_len]; omega) k hk W hG
   rw [List.append_assoc] at this
   exact this) (bs4_end gl c hc sc i hi (N ++ rrL gl (c.rv gl i) (lenV (c.rv gl i))) W hG)
 rw [show N ++ rrL gl (c.rv gl i) 0 = N from List.append_nil N] at hl
 exact hl
theorem bs3_step (gl : Gl) (c : Cn) (hc : CnOk gl c) (sc : CnBd gl c) (i : Nat) (hi : i < c.rn) (N : List Int) (hN : N.length <= 980000000) (W : World) (hG : GlobOk gl W) : S2.Sem (enG gl) W 145 (bsK bP3) (bsS c N [iS 8 i]) none (bsS c ((N ++ [raG gl c.r i, (lenV (c.rv gl i) : Int)]) ++ rrL gl (c.rv gl i) (lenV (c.rv gl i))) [iS 8 (i + 1)]) := by
 have s1 := sc.1
 have s2 := sc.2.1
 have s3 := sc.2.2.2 i hi
 refine sem_iterP (enG_ok gl) hG (fuel := 1000) (d := 30) (p := (bsQ 0 [8])) [⟨bI2, bsQ 2 [8, 9], some (some 6), bsS c ((N ++ [raG gl c.r i, (lenV (c.rv gl i) : Int)]) ++ rrL gl (c.rv gl i) (lenV (c.rv gl i))) [iS 8 i, iS 9 (lenV (c.rv gl i))]⟩] [true] [(pre (inI ((i : Int) + 1)), true), (pre (decide (N.length + 2 <= maxLen /\ (N.length + 2) * 8 <= 140737488355328 /\ 0 < 2)), true), (pre (rowB gl (c.rv gl i) (rfE gl (c.rv gl i))), true), (pre (rowB gl c.r (rwE gl c.r)), true), (pre (decide (i < c.rn)), true), (pre (rowB gl c.r (rwE gl c.r)), true), (pre (decide (i < c.rn)), true), (pre (rowB gl c.r (rwE gl c.r)), true), (pre (idxB ((i : Int)) c.rn), true), (pre (rowB gl c.r (rwE gl c.r)), true), (pre (decide (i < c.rn)), true), (pre (rowB gl c.r (rwE gl c.r)), true), (pre (decide (i < c.rn)), true), (pre (rowB gl c.r (rwE gl c.r)), true), (pre (idxB ((i : Int)) c.rn), true), (decide ((i : Int) < (c.rn : Int)), true), (pre (rowB gl c.r (rwE gl c.r)), true)] [⟨.loop (bsK (bI2 ++ (0 :: bP3))), bsE c (apI N [raG gl c.r i, (lenV (c.rv gl i) : Int)]) [iS 8 i, iS 9 0], some (some 6), bsS c ((N ++ [raG gl c.r i, (lenV (c.rv gl i) : Int)]) ++ rrL gl (c.rv gl i) (lenV (c.rv gl i))) [iS 8 i, iS 9 (lenV (c.rv gl i))]⟩] (by kernel_rfl) (by kernel_rfl) ?_ (fun t ht => by obtain rfl := List.mem_singleton.mp ht; exact (bs4_all gl c hc sc i hi (N ++ [raG gl c.r i, (lenV (c.rv gl i) : Int)]) (by rw [List.length_append]; show N.length + 2 <= _; omega) W hG).alike rfl rfl ⟨appI N [raG gl c.r i, (lenV (c.rv gl i) : Int)], trivial⟩ rfl)
 refine qF ?_ ?_ ?_ ?_ <| qF ?_ ?_ ?_ ?_ <| qF ?_ ?_ ?_ ?_ <| qF ?_ ?_ ?_ ?_ <| qA ?_ <| qZ
 . exact ob_inI (by omega)
 . exact ob_app (by omega) (by decide) (by decide)
 . exact rowB_ok.mpr (by first | exact hc.hs | exact hc.rw | exact hc.rc _ (by omega) | exact hc.rf _ (by omega))
 . exact rowB_ok.mpr (by first | exact hc.hs | exact hc.rw | exact hc.rc _ (by omega) | exact hc.rf _ (by omega))
 . exact ob_lt (by omega)
 . exact rowB_ok.mpr (by first | exact hc.hs | exact hc.rw | exact hc.rc _ (by omega) | exact hc.rf _ (by omega))
 . exact ob_lt (by omega)
 . exact rowB_ok.mpr (by first | exact hc.hs | exact hc.rw | exact hc.rc _ (by omega) | exact hc.rf _ (by omega))
 . exact ob_idx (by omega)
 . exact rowB_ok.mpr (by first | exact hc.hs | exact hc.rw | exact hc.rc _ (by omega) | exact hc.rf _ (by omega))
 . exact ob_lt (by omega)
 . exact rowB_ok.mpr (by first | exact hc.hs | exact hc.rw | exact hc.rc _ (by omega) | exact hc.rf _ (by omega))
 . exact ob_lt (by omega)
 . exact rowB_ok.mpr (by first | exact hc.hs | exact hc.rw | exact hc.rc _ (by omega) | exact hc.rf _ (by omega))
 . exact ob_idx (by omega)
 . exact ob_yes (by omega)
 . exact rowB_ok.mpr (by first | exact hc.hs | exact hc.rw | exact hc.rc _ (by omega) | exact hc.rf _ (by omega))
theorem bs3_end (gl : Gl) (c : Cn) (hc : CnOk gl c) (sc : CnBd gl c) (N : List Int) (W : World) (hG : GlobOk gl W) : S2.Sem (enG gl) W 145 (bsK bP3) (bsS c N [iS 8 c.rn]) (some (some 4)) (bsS c N [iS 8 c.rn]) := by
 refine sem_iter (enG_ok gl) hG (p := (bsQ 0 [8])) (fuel := 1000) [false] [(decide (((c.rn : Nat) : Int) < (c.rn : Int)), false), (pre (rowB gl c.r (rwE gl c.r)), true)] (by kernel_rfl) (by kernel_rfl) ?_
 refine qA ?_ <| qA ?_ <| qZ
 . exact ob_no (by omega)
 . exact rowB_ok.mpr (by first | exact hc.hs | exact hc.rw | exact hc.rc _ (by omega) | exact hc.rf _ (by omega))
theorem bs3_all (gl : Gl) (c : Cn) (hc : CnOk gl c) (sc : CnBd gl c) (N : List Int) (hN : N.length <= 600000000) (W : World) (hG : GlobOk gl W) : S2.Sem (enG gl) W 145 (.loop (bsK bP3)) (bsS c N [iS 8 0]) (some (some 4)) (bsS c (N ++ rsL gl c c.rn) [iS 8 c.rn]) := by
 have s1 := sc.2.1
 have hl := sem_loop (E := enG gl) (w0 := base0 W) (nb := 0) (nl := 0) (n := 145) (c := (bsK bP3)) (x := some (some 4)) (s' := bsS c (N ++ rsL gl c c.rn) [iS 8 c.rn]) (fun i => bsS c (N ++ rsL gl c i) [iS 8 i]) c.rn (by simp) (fun i hi => by
   have h1 := rsL_len sc.2.2.2 i (by omega)
   have := bs3_step gl c hc sc i hi (N ++ rsL gl c i) (by rw [List.length_append]; omega) W hG
   rw [List.append_assoc, List.append_assoc] at this
   exact this) (bs3_end gl c hc sc (N ++ rsL gl c c.rn) W hG)
 rw [show N ++ rsL gl c 0 = N from List.append_nil N] at hl
 exact hl
end Go.Proofs.Ytmaffamhjmlonaa
