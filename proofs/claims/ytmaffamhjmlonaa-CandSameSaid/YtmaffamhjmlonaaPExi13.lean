/- Layer 13: package cand: exists; the first hart with too many records. -/
import Derived.Test.YtmaffamhjmlonaaSameF13
set_option linter.unusedVariables false
set_option linter.unusedSimpArgs false
namespace Go.Proofs.Ytmaffamhjmlonaa
open Go.RowKit Sim S2
theorem thB_ex (gl : Gl) (c : Cn) (h a : Int) : thB gl c h a = bif decide (0 <= h) then (bif decide (h < (c.hn : Int)) then (bif decide (0 <= a) then decide (a < (lenV (c.hv gl h.toNat) : Int)) else false) else false) else false := by
 unfold thB
 by_cases h1 : h < 0
 . rw [decide_eq_true h1, decide_eq_false (show ¬ 0 <= h by omega)]; rfl
 . rw [decide_eq_false h1, decide_eq_true (show 0 <= h by omega)]
   by_cases h2 : h < (c.hn : Int)
   . rw [decide_eq_true h2, decide_eq_false (show ¬ h >= (c.hn : Int) by omega)]
     rfl
   . rw [decide_eq_false h2, decide_eq_true (show h >= (c.hn : Int) by omega)]; rfl
theorem exists_ret {gl : Gl} (c : Cn) (h a : Int) (hc : CnOk gl c) (w : World) (hG : GlobOk gl w) : Ret Try.prog 46 #[cnV c, rfV h a] (.bool (thZ gl c h a)) w := by
 have ho : CallOk (enD gl noT noP noL) := enD_ok (.none _ _) (.none _ _) (.none _ _)
 have r1 := hc.hs
 rw [thZ_eq, thB_ex]
 cases h0 : (decide (0 <= h))
 case' false =>
   refine LRet.plain (?_ : LRet Try.prog 46 [cnV c, rfV h a] false [.inl (.bool _)] w)
   refine fn_ok ho (fuel := 1000) (d := 30) (plan := []) (orc := [false]) (fls := [mkC, mkC]) (args := [.inl (cnV c), .inl (rfV h a)]) (l := [(decide (0 <= h), false)]) (tr := []) (by kernel_rfl) ?_ Try.func46 w _ hG ⟨rfl, rfl, trivial⟩ fun t ht => by cases ht
   refine qA ?_ <| qZ
   . assumption
 case' true =>
   cases h1 : (decide (h < ↑c.hn))
   case' false =>
     refine LRet.plain (?_ : LRet Try.prog 46 [cnV c, rfV h a] false [.inl (.bool _)] w)
     refine fn_ok ho (fuel := 1000) (d := 30) (plan := []) (orc := [true, false]) (fls := [mkC, mkC]) (args := [.inl (cnV c), .inl (rfV h a)]) (l := [(decide (h < ↑c.hn), false), (pre (rowB gl c.h (hsE gl c.h)), true), (decide (0 <= h), true)]) (tr := []) (by kernel_rfl) ?_ Try.func46 w _ hG ⟨rfl, rfl, trivial⟩ fun t ht => by cases ht
     refine qA ?_ <| qA ?_ <| qA ?_ <| qZ
     . assumption
     . exact rowB_ok.mpr (by first | assumption | (simp only [qN] at *; assumption))
     . assumption
   case' true =>
     cases h2 : (decide (0 <= a))
     case' false =>
       refine LRet.plain (?_ : LRet Try.prog 46 [cnV c, rfV h a] false [.inl (.bool _)] w)
       have r2 := hc.rc h.toNat (by have g0 := of_decide_eq_true h0; have g1 := of_decide_eq_true h1; have g2 := of_decide_eq_false h2; omega)
       refine fn_ok ho (fuel := 1000) (d := 30) (plan := []) (orc := [true, true, false]) (fls := [mkC, mkC]) (args := [.inl (cnV c), .inl (rfV h a)]) (l := [(decide (0 <= a), false), (decide (h < ↑c.hn), true), (pre (rowB gl c.h (hsE gl c.h)), true), (decide (0 <= h), true)]) (tr := []) (by kernel_rfl) ?_ Try.func46 w _ hG ⟨rfl, rfl, trivial⟩ fun t ht => by cases ht
       refine qF ?_ ?_ ?_ ?_ <| qZ
       . assumption
       . assumption
       . exact rowB_ok.mpr (by first | assumption | (simp only [qN] at *; assumption))
       . assumption
     case' true =>
       refine LRet.plain (?_ : LRet Try.prog 46 [cnV c, rfV h a] false [.inl (.bool _)] w)
       have r2 := hc.rc h.toNat (by have g0 := of_decide_eq_true h0; have g1 := of_decide_eq_true h1; have g2 := of_decide_eq_true h2; omega)
       refine fn_ok ho (fuel := 1000) (d := 30) (plan := []) (orc := [true, true, true]) (fls := [mkC, mkC]) (args := [.inl (cnV c), .inl (rfV h a)]) (l := [(pre (rowB gl (c.hv gl h.toNat) (rcE gl (c.hv gl h.toNat))), true), (pre (rowB gl c.h (hsE gl c.h)), true), (pre (decide (h.toNat < c.hn)), true), (pre (rowB gl c.h (hsE gl c.h)), true), (pre (idxB h c.hn), true), (decide (0 <= a), true), (decide (h < ↑c.hn), true), (pre (rowB gl c.h (hsE gl c.h)), true), (decide (0 <= h), true)]) (tr := []) (by kernel_rfl) ?_ Try.func46 w _ hG ⟨rfl, rfl, trivial⟩ fun t ht => by cases ht
       refine qF ?_ ?_ ?_ ?_ <| qF ?_ ?_ ?_ ?_ <| qA ?_ <| qZ
       . exact rowB_ok.mpr (by first | assumption | (simp only [qN] at *; assumption))
       . exact rowB_ok.mpr (by first | assumption | (simp only [qN] at *; assumption))
       . have g0 := of_decide_eq_true h0; have g1 := of_decide_eq_true h1; have g2 := of_decide_eq_true h2; exact ob_lt (by omega)
       . exact rowB_ok.mpr (by first | assumption | (simp only [qN] at *; assumption))
       . have g0 := of_decide_eq_true h0; have g1 := of_decide_eq_true h1; have g2 := of_decide_eq_true h2; exact ob_idx (by omega)
       . assumption
       . assumption
       . exact rowB_ok.mpr (by first | assumption | (simp only [qN] at *; assumption))
       . assumption
noncomputable def pExists (gl : Gl) : PTab := prow 46 decTh (fun x => .bool (thZ gl x.1 x.2.1 x.2.2)) (fun x => okC gl x.1)
theorem pExists_ok {gl : Gl} : PTabOk Try.prog gl (pExists gl) := .row decTh_eq fun x h w hG => exists_ret x.1 x.2.1 x.2.2 (propB_ok.mp h) w hG
def fnV (f : FuncId) : Value := .func (.func f) #[] #[]
def ixP : List Nat := [0, 1, 0, 1]
noncomputable def ixK : Code := codeAt (codeOf Try.prog 45) (0 :: ixP)
def ixS (v : Value) (n : Nat) (i : Nat) : S2.St := { tmps := [(0, .inl ([true], v)), (1, .inl ([], fnV 23)), (7, .inl ([true], .int .i64 n)), (8, .inl ([true], .int .i64 i))], own := ⟨[], []⟩, lo := 0, llo := 0, mem := true, orc := [], obl := [] }
def ixQ : Pick := { ts := [0, 1, 7, 8], bs := [], ls := [], opn := [8] }
def ixZ : Pick := { ts := [4], bs := [], ls := [] }
def ixT (i : Int) : S2.St := { tmps := [(4, .inl ([true], .int .i64 i))], own := ⟨[], []⟩, lo := 0, llo := 0, mem := true, orc := [], obl := [] }
noncomputable def fewB (gl : Gl) (v : Value) (i : Nat) : Bool := !decide ((lenV (slG gl v 1 0 i) : Int) > 1024)
theorem ix_step (gl : Gl) (va : Option Addr) (n vc : Nat) (hn : n <= 9223372036854775807) (hv : rowG gl (.slice va n vc) (hsE gl (.slice va n vc))) (hr : ∀ i, i < n -> rowG gl (slG gl (.slice va n vc) 1 0 i) (rcE gl (slG gl (.slice va n vc) 1 0 i))) (i : Nat) (hi : i < n) (h : fewB gl (.slice va n vc) i = true) (w : World) (hG : GlobOk gl w) : S2.Sem (enD0 gl) w 19 ixK (ixS (.slice va n vc) n i) none (ixS (.slice va n vc) n (i + 1)) := by
 refine sem_iter (enD0_ok gl) hG (p := ixQ) (fuel := 1000) [true, false] [(pre (inI ((i : Int) + 1)), true), (decide (((lenV (slG gl (.slice va n vc) 1 0 i) : Nat) : Int) > 1024), false), (pre (rowB gl (slG gl (.slice va n vc) 1 0 i) (rcE gl (slG gl (.slice va n vc) 1 0 i))), true), (pre (rowB gl (.slice va n vc) (hsE gl (.slice va n vc))), true), (pre (decide (i < n)), true), (pre (rowB gl (.slice va n vc) (hsE gl (.slice va n vc))), true), (pre (idxB ((i : Int)) n), true), (decide ((i : Int) < (n : Int)), true)] (by kernel_rfl) (by kernel_rfl) ?_
 refine qF ?_ ?_ ?_ ?_ <| qF ?_ ?_ ?_ ?_ <| qZ
 . exact ob_inI (by omega)
 . unfold fewB at h; simpa using h
 . exact rowB_ok.mpr (by first | assumption | exact hr _ (by omega))
 . exact rowB_ok.mpr (by first | assumption | exact hr _ (by omega))
 . exact ob_lt (by omega)
 . exact rowB_ok.mpr (by first | assumption | exact hr _ (by omega))
 . exact ob_idx (by omega)
 . exact ob_yes (by omega)
theorem ix_out (gl : Gl) (va : Option Addr) (n vc : Nat) (hn : n <= 9223372036854775807) (hv : rowG gl (.slice va n vc) (hsE gl (.slice va n vc))) (hr : ∀ i, i < n -> rowG gl (slG gl (.slice va n vc) 1 0 i) (rcE gl (slG gl (.slice va n vc) 1 0 i))) (i : Nat) (hi : i < n) (h : fewB gl (.slice va n vc) i = false) (w : World) (hG : GlobOk gl w) : S2.Sem (enD0 gl) w 19 ixK (ixS (.slice va n vc) n i) (some none) (ixT i) := by
 refine sem_iter (enD0_ok gl) hG (p := ixZ) (fuel := 1000) [true, true] [(decide (((lenV (slG gl (.slice va n vc) 1 0 i) : Nat) : Int) > 1024), true), (pre (rowB gl (slG gl (.slice va n vc) 1 0 i) (rcE gl (slG gl (.slice va n vc) 1 0 i))), true), (pre (rowB gl (.slice va n vc) (hsE gl (.slice va n vc))), true), (pre (decide (i < n)), true), (pre (rowB gl (.slice va n vc) (hsE gl (.slice va n vc))), true), (pre (idxB ((i : Int)) n), true), (decide ((i : Int) < (n : Int)), true)] (by kernel_rfl) (by kernel_rfl) ?_
 refine qF ?_ ?_ ?_ ?_ <| qA ?_ <| qA ?_ <| qA ?_ <| qZ
 . unfold fewB at h; simpa using h
 . exact rowB_ok.mpr (by first | assumption | exact hr _ (by omega))
 . exact rowB_ok.mpr (by first | assumption | exact hr _ (by omega))
 . exact ob_lt (by omega)
 . exact rowB_ok.mpr (by first | assumption | exact hr _ (by omega))
 . exact ob_idx (by omega)
 . exact ob_yes (by omega)
theorem ix_end (gl : Gl) (va : Option Addr) (n vc : Nat) (hn : n <= 9223372036854775807) (hv : rowG gl (.slice va n vc) (hsE gl (.slice va n vc))) (hr : ∀ i, i < n -> rowG gl (slG gl (.slice va n vc) 1 0 i) (rcE gl (slG gl (.slice va n vc) 1 0 i))) (i : Nat) (hi : n <= i) (w : World) (hG : GlobOk gl w) : S2.Sem (enD0 gl) w 19 ixK (ixS (.slice va n vc) n i) (some (some 0)) (ixS (.slice va n vc) n i) := by
 refine sem_iter (enD0_ok gl) hG (p := ixQ) (fuel := 1000) [false] [(decide ((i : Int) < (n : Int)), false)] (by kernel_rfl) (by kernel_rfl) ?_
 refine qA ?_ <| qZ
 . exact ob_no (by omega)
noncomputable def ixB (gl : Gl) (v : Value) : Int := bif Nat.beq (skipN (fewB gl v) (lenV v) 0) (lenV v) then -1 else (skipN (fewB gl v) (lenV v) 0 : Nat)
theorem ixZ_ex : ∃ f : Gl -> Value -> Int, ∀ gl v, f gl v = ixB gl v := ⟨_, fun _ _ => rfl⟩
noncomputable def ixA : Gl -> Value -> Int := Classical.choose ixZ_ex
theorem ixA_eq (gl : Gl) (v : Value) : ixA gl v = ixB gl v := Classical.choose_spec ixZ_ex gl v
theorem index_ret {gl : Gl} (va : Option Addr) (n vc : Nat) (hn : n <= 9223372036854775807) (hv : rowG gl (.slice va n vc) (hsE gl (.slice va n vc))) (hr : ∀ i, i < n -> rowG gl (slG gl (.slice va n vc) 1 0 i) (rcE gl (slG gl (.slice va n vc) 1 0 i))) (w : World) (hG : GlobOk gl w) :
   Ret Try.prog 45 #[.slice va n vc, fnV 23] (.int .i64 (ixA gl (.slice va n vc))) w := by
 rw [ixA_eq]
 refine LRet.plain (?_ : LRet Try.prog 45 [.slice va n vc, fnV 23] false [.inl (.int .i64 _)] w)
 have ha : ArgsOk w [.inl (.slice va n vc), .inl (fnV 23)] [.slice va n vc, fnV 23] := ⟨rfl, rfl, trivial⟩
 unfold ixB
 show LRet _ _ _ _ [.inl (.int .i64 (bif Nat.beq (skipN (fewB gl (.slice va n vc)) n 0) n then -1 else (skipN (fewB gl (.slice va n vc)) n 0 : Nat)))] w
 have g2 := skipN_all (fewB gl (.slice va n vc)) n 0
 have g4 := skipN_le (fewB gl (.slice va n vc)) n 0
 have g3 := @skipN_hit (fewB gl (.slice va n vc)) n 0
 generalize hs : skipN (fewB gl (.slice va n vc)) n 0 = s at *
 by_cases h : s = n
 . rw [show Nat.beq s n = true from by rw [h]; exact Nat.beq_refl _]
   show LRet _ _ _ _ [.inl (.int .i64 (-1))] w
   have hl := sem_loop (E := enD0 gl) (w0 := base0 w) (nb := 0) (nl := 0) (n := 19) (c := ixK) (x := some (some 0)) (s' := ixS (.slice va n vc) n n) (fun i => ixS (.slice va n vc) n i) n (by simp) (fun i hi => ix_step gl va n vc hn hv hr i hi (g2 i (by omega) (by omega)) w hG) (ix_end gl va n vc hn hv hr n (by omega) w hG)
   refine fn_ok (enD0_ok gl) (fuel := 1000) (d := 30) (plan := [⟨ixP, ixQ, some (some 0), ixS (.slice va n vc) n n⟩]) (orc := []) (fls := [[true], []]) (l := [(pre (rowB gl (.slice va n vc) (hsE gl (.slice va n vc))), true)]) (tr := [⟨.loop ixK, ixS (.slice va n vc) n 0, some (some 0), ixS (.slice va n vc) n n⟩]) (by kernel_rfl) ?_ Try.func45 w _ hG ha fun t ht => ?_
   . refine qA ?_ <| qZ
     . exact rowB_ok.mpr hv
   . obtain rfl := List.mem_singleton.mp ht
     exact hl
 . rw [show Nat.beq s n = false from by rw [<- Bool.not_eq_true]; exact fun hb => h (qB hb)]
   show LRet _ _ _ _ [.inl (.int .i64 (s : Nat))] w
   have hl := sem_loop (E := enD0 gl) (w0 := base0 w) (nb := 0) (nl := 0) (n := 19) (c := ixK) (x := some none) (s' := ixT s) (fun i => ixS (.slice va n vc) n i) s (by simp) (fun i hi => ix_step gl va n vc hn hv hr i (by omega) (g2 i (by omega) hi) w hG) (ix_out gl va n vc hn hv hr s (by omega) (g3 (by omega)) w hG)
   refine fn_ok (enD0_ok gl) (fuel := 1000) (d := 30) (plan := [⟨ixP, ixQ, some none, ixT s⟩]) (orc := []) (fls := [[true], []]) (l := [(pre (rowB gl (.slice va n vc) (hsE gl (.slice va n vc))), true)]) (tr := [⟨.loop ixK, ixS (.slice va n vc) n 0, some none, ixT s⟩]) (by kernel_rfl) ?_ Try.func45 w _ hG ha fun t ht => ?_
   . refine qA ?_ <| qZ
     . exact rowB_ok.mpr hv
   . obtain rfl := List.mem_singleton.mp ht
     exact hl
noncomputable def pIndex (gl : Gl) : PTab := prowD 45 fun l => match l with
 | [.slice va n vc, .func (.func f) ⟨[]⟩ ⟨[]⟩] => bif Nat.beq f 23 then some (.int .i64 (ixA gl (.slice va n vc)), pre (propB (n <= 9223372036854775807 /\ rowG gl (.slice va n vc) (hsE gl (.slice va n vc)) /\ ∀ i, i < n -> rowG gl (slG gl (.slice va n vc) 1 0 i) (rcE gl (slG gl (.slice va n vc) 1 0 i))))) else none
 | _ => none
theorem pIndex_ok {gl : Gl} : PTabOk Try.prog gl (pIndex gl) := .rowD fun args v h w hG => by
 split at h
 . rename_i va n vc f
   cases hf : Nat.beq f 23
   . rw [hf] at h; cases h
   . rw [hf] at h
     simp only [cond_true, qS, qP] at h
     obtain ⟨rfl, hp⟩ := h
     obtain rfl := qB hf
     obtain ⟨h1, h2, h3⟩ := propB_ok.mp hp
     exact index_ret va n vc h1 h2 h3 w hG
 . cases h
end Go.Proofs.Ytmaffamhjmlonaa
