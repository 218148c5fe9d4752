/- Layer 13: package cand: Check. -/
import Derived.Test.YtmaffamhjmlonaaK07
import Derived.Test.YtmaffamhjmlonaaPRow13
set_option linter.unusedVariables false
set_option linter.unusedSimpArgs false
namespace Go.Proofs.Ytmaffamhjmlonaa
open Go.RowKit Sim S2
noncomputable def enY (gl : Gl) : S2.Env := enD gl noT (orP (pIndex gl) (orP (pRecFit gl) (pRowFit gl))) noL
theorem enY_ok (gl : Gl) : CallOk (enY gl) := enD_ok (.none _ _) (pIndex_ok.or (pRecFit_ok.or pRowFit_ok)) (.none _ _)
theorem ix_neg {gl : Gl} {c : Cn} (h : skipN (ck1 gl c) c.hn 0 = c.hn) : ixA gl c.h = -1 := by
 rw [ixA_eq]
 unfold ixB
 show (bif Nat.beq (skipN (fewB gl c.h) c.hn 0) c.hn then (-1 : Int) else (skipN (fewB gl c.h) c.hn 0 : Nat)) = -1
 rw [show skipN (fewB gl c.h) c.hn 0 = skipN (ck1 gl c) c.hn 0 from skipN_congr (fun i => by
   unfold fewB ck1
   show (!decide ((lenV (c.hv gl i) : Int) > 1024)) = _
   cases decide ((lenV (c.hv gl i) : Int) > 1024) <;> rfl) _ _, h, Nat.beq_refl]
 rfl
theorem ix_pos {gl : Gl} {c : Cn} (h : skipN (ck1 gl c) c.hn 0 ≠ c.hn) : ixA gl c.h = (skipN (ck1 gl c) c.hn 0 : Nat) := by
 rw [ixA_eq]
 unfold ixB
 show (bif Nat.beq (skipN (fewB gl c.h) c.hn 0) c.hn then (-1 : Int) else (skipN (fewB gl c.h) c.hn 0 : Nat)) = _
 rw [show skipN (fewB gl c.h) c.hn 0 = skipN (ck1 gl c) c.hn 0 from skipN_congr (fun i => by
   unfold fewB ck1
   show (!decide ((lenV (c.hv gl i) : Int) > 1024)) = _
   cases decide ((lenV (c.hv gl i) : Int) > 1024) <;> rfl) _ _, show Nat.beq (skipN (ck1 gl c) c.hn 0) c.hn = false from by rw [<- Bool.not_eq_true]; exact fun hb => h (qB hb)]
 rfl
theorem check_ret {gl : Gl} (c : Cn) (hc : CnOk gl c) (sc : CnSm gl c) (ri : RfIn gl c) (w : World) (hG : GlobOk gl w) : Ret Try.prog 10 #[cnV c] (.int .i64 (chkZ gl c)) w := by
 rw [chkZ_eq]
 refine LRet.plain (?_ : LRet Try.prog 10 [cnV c] false [.inl (.int .i64 _)] w)
 have ha : ArgsOk w [.inl (cnV c)] [cnV c] := ⟨rfl, trivial⟩
 unfold chkB
 by_cases h0 : 8 < c.hn
 . rw [if_pos h0]
   have hix := 0
   refine fn_ok (enY_ok gl) (fuel := 1000) (d := 30) (plan := []) (orc := [true]) (fls := [[true, true]]) (l := [(decide ((c.hn : Int) > 8), true), (pre (rowB gl c.h (hsE gl c.h)), true)]) (tr := []) (by kernel_rfl) ?_ Try.func10 w _ hG ha fun t ht => by cases ht
   refine qA ?_ <| qA ?_ <| qZ
   . exact ob_yes (by omega)
   . exact rowB_ok.mpr hc.hs
 . rw [if_neg h0]
   by_cases h1 : skipN (ck1 gl c) c.hn 0 = c.hn
   . rw [if_pos h1]
     have hix : decide (ixA gl c.h >= 0) = false := by rw [ix_neg h1]; rfl
     have hm : ∀ i, i < c.hn -> lenV (c.hv gl i) <= 1024 := fun i hi => by
       have := skipN_all (ck1 gl c) c.hn 0 i (by omega) (by omega)
       unfold ck1 at this
       cases hd : decide (((lenV (c.hv gl i) : Nat) : Int) > 1024) <;> rw [hd] at this
       . have := of_decide_eq_false hd; omega
       . cases this
     by_cases h2 : skipN (ck2B gl c) c.hn 0 = c.hn
     . rw [if_pos h2]
       have hrc : rcB gl c = true := by rw [rcB_eq, h2, Nat.beq_refl]
       by_cases h3 : skipN (ck4B gl c) c.rn 0 = c.rn
       . rw [if_pos h3]
         have hrw : Nat.beq (skipN (ck4B gl c) c.rn 0) c.rn = true := by rw [h3, Nat.beq_refl]
         refine fn_ok (enY_ok gl) (fuel := 1000) (d := 30) (plan := []) (orc := [false, false, false, false]) (fls := [[true, true]]) (l := [(!(skipN (ck4B gl c) c.rn 0).beq c.rn, false), (pre (propB (CnOk gl c /\ CnSm gl c /\ RfIn gl c /\ c.hn <= 8 /\ ∀ (i : Nat), i < c.hn -> lenV (c.hv gl i) <= 1024)), true), (!rcB gl c, false), (pre (propB (CnOk gl c /\ CnSm gl c)), true), (decide (ixA gl c.h >= 0), false), (pre (propB (c.hn <= 9223372036854775807 /\ rowG gl c.h (hsE gl c.h) /\ ∀ (i : Nat), i < c.hn -> rowG gl (c.hv gl i) (rcE gl (c.hv gl i)))), true), (decide ((c.hn : Int) > 8), false), (pre (rowB gl c.h (hsE gl c.h)), true)]) (tr := []) (by kernel_rfl) ?_ Try.func10 w _ hG ha fun t ht => by cases ht
         refine qF ?_ ?_ ?_ ?_ <| qF ?_ ?_ ?_ ?_ <| qZ
         . rw [hrw]; rfl
         . exact propB_ok.mpr ⟨hc, sc, ri, by omega, hm⟩
         . rw [hrc]; rfl
         . exact propB_ok.mpr ⟨hc, sc⟩
         . exact hix
         . exact propB_ok.mpr ⟨sc.1, hc.hs, fun i hi => hc.rc i hi⟩
         . exact ob_no (by omega)
         . exact rowB_ok.mpr hc.hs
       . rw [if_neg h3]
         have hrw : Nat.beq (skipN (ck4B gl c) c.rn 0) c.rn = false := by rw [<- Bool.not_eq_true]; exact fun hb => h3 (qB hb)
         refine fn_ok (enY_ok gl) (fuel := 1000) (d := 30) (plan := []) (orc := [false, false, false, true]) (fls := [[true, true]]) (l := [(!(skipN (ck4B gl c) c.rn 0).beq c.rn, true), (pre (propB (CnOk gl c /\ CnSm gl c /\ RfIn gl c /\ c.hn <= 8 /\ ∀ (i : Nat), i < c.hn -> lenV (c.hv gl i) <= 1024)), true), (!rcB gl c, false), (pre (propB (CnOk gl c /\ CnSm gl c)), true), (decide (ixA gl c.h >= 0), false), (pre (propB (c.hn <= 9223372036854775807 /\ rowG gl c.h (hsE gl c.h) /\ ∀ (i : Nat), i < c.hn -> rowG gl (c.hv gl i) (rcE gl (c.hv gl i)))), true), (decide ((c.hn : Int) > 8), false), (pre (rowB gl c.h (hsE gl c.h)), true)]) (tr := []) (by kernel_rfl) ?_ Try.func10 w _ hG ha fun t ht => by cases ht
         refine qF ?_ ?_ ?_ ?_ <| qF ?_ ?_ ?_ ?_ <| qZ
         . rw [hrw]; rfl
         . exact propB_ok.mpr ⟨hc, sc, ri, by omega, hm⟩
         . rw [hrc]; rfl
         . exact propB_ok.mpr ⟨hc, sc⟩
         . exact hix
         . exact propB_ok.mpr ⟨sc.1, hc.hs, fun i hi => hc.rc i hi⟩
         . exact ob_no (by omega)
         . exact rowB_ok.mpr hc.hs
     . rw [if_neg h2]
       have hrc : rcB gl c = false := by rw [rcB_eq, <- Bool.not_eq_true]; exact fun hb => h2 (qB hb)
       refine fn_ok (enY_ok gl) (fuel := 1000) (d := 30) (plan := []) (orc := [false, false, true]) (fls := [[true, true]]) (l := [(!rcB gl c, true), (pre (propB (CnOk gl c /\ CnSm gl c)), true), (decide (ixA gl c.h >= 0), false), (pre (propB (c.hn <= 9223372036854775807 /\ rowG gl c.h (hsE gl c.h) /\ ∀ (i : Nat), i < c.hn -> rowG gl (c.hv gl i) (rcE gl (c.hv gl i)))), true), (decide ((c.hn : Int) > 8), false), (pre (rowB gl c.h (hsE gl c.h)), true)]) (tr := []) (by kernel_rfl) ?_ Try.func10 w _ hG ha fun t ht => by cases ht
       refine qF ?_ ?_ ?_ ?_ <| qA ?_ <| qA ?_ <| qZ
       . rw [hrc]; rfl
       . exact propB_ok.mpr ⟨hc, sc⟩
       . exact hix
       . exact propB_ok.mpr ⟨sc.1, hc.hs, fun i hi => hc.rc i hi⟩
       . exact ob_no (by omega)
       . exact rowB_ok.mpr hc.hs
   . rw [if_neg h1]
     have hix : decide (ixA gl c.h >= 0) = true := by rw [ix_pos h1]; exact decide_eq_true (by omega)
     refine fn_ok (enY_ok gl) (fuel := 1000) (d := 30) (plan := []) (orc := [false, true]) (fls := [[true, true]]) (l := [(decide (ixA gl c.h >= 0), true), (pre (propB (c.hn <= 9223372036854775807 /\ rowG gl c.h (hsE gl c.h) /\ ∀ (i : Nat), i < c.hn -> rowG gl (c.hv gl i) (rcE gl (c.hv gl i)))), true), (decide ((c.hn : Int) > 8), false), (pre (rowB gl c.h (hsE gl c.h)), true)]) (tr := []) (by kernel_rfl) ?_ Try.func10 w _ hG ha fun t ht => by cases ht
     refine qF ?_ ?_ ?_ ?_ <| qZ
     . exact hix
     . exact propB_ok.mpr ⟨sc.1, hc.hs, fun i hi => hc.rc i hi⟩
     . exact ob_no (by omega)
     . exact rowB_ok.mpr hc.hs
noncomputable def pCk (gl : Gl) : PTab := prow 10 decC1 (fun x => .int .i64 (chkZ gl x)) (fun x => propB (CnOk gl x /\ CnSm gl x /\ CnIn gl x))
theorem rrL_mem {gl : Gl} {v : Value} : ∀ {n k : Nat}, k < n -> (rfG gl v k).h ∈ rrL gl v n /\ (rfG gl v k).a ∈ rrL gl v n
 | 0, k, h => absurd h (Nat.not_lt_zero _)
 | n + 1, k, h => by
   show _ ∈ rrL gl v n ++ [(rfG gl v n).h, (rfG gl v n).a] /\ _ ∈ rrL gl v n ++ [(rfG gl v n).h, (rfG gl v n).a]
   by_cases hk : k = n
   . subst hk; exact ⟨List.mem_append_right _ (by simp), List.mem_append_right _ (by simp)⟩
   . obtain ⟨h1, h2⟩ := rrL_mem (gl := gl) (v := v) (n := n) (k := k) (by omega)
     exact ⟨List.mem_append_left _ h1, List.mem_append_left _ h2⟩
theorem rsL_mem {gl : Gl} {c : Cn} {x : Int} : ∀ {n i : Nat}, i < n -> x ∈ rrL gl (c.rv gl i) (lenV (c.rv gl i)) -> x ∈ rsL gl c n
 | 0, i, h, _ => absurd h (Nat.not_lt_zero _)
 | n + 1, i, h, hx => by
   show x ∈ rsL gl c n ++ ([raG gl c.r n, (lenV (c.rv gl n) : Int)] ++ rrL gl (c.rv gl n) (lenV (c.rv gl n)))
   by_cases hk : i = n
   . subst hk; exact List.mem_append_right _ (List.mem_append_right _ hx)
   . exact List.mem_append_left _ (rsL_mem (by omega) hx)
theorem cnIn_mem {gl : Gl} {c : Cn} (h : CnIn gl c) {x : Int} (hx : x ∈ numL13 gl c) : inI x = true := by
 obtain ⟨j, hj, e⟩ := List.getElem_of_mem hx
 have := h j hj
 rw [List.getElem?_eq_getElem hj] at this
 rw [<- e]; exact this
theorem rfIn_of {gl : Gl} {c : Cn} (h : CnIn gl c) : RfIn gl c := fun i hi k hk => by
 obtain ⟨h1, h2⟩ := rrL_mem (gl := gl) (v := c.rv gl i) hk
 exact ⟨cnIn_mem h (List.mem_append_right _ (rsL_mem hi h1)), cnIn_mem h (List.mem_append_right _ (rsL_mem hi h2))⟩
theorem pCk_ok {gl : Gl} : PTabOk Try.prog gl (pCk gl) := .row decC1_eq fun x h w hG => by
 obtain ⟨h1, h2, h3⟩ := propB_ok.mp h
 exact check_ret x h1 h2 (rfIn_of h3) w hG
end Go.Proofs.Ytmaffamhjmlonaa
