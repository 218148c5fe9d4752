/- Layer 13: the laws: large. -/
import Derived.Test.YtmaffamhjmlonaaK06
set_option linter.unusedVariables false
set_option linter.unusedSimpArgs false
namespace Go.Proofs.Ytmaffamhjmlonaa
open Go.RowKit Sim S2
def lrgP1 : List Nat := [0, 1, 0, 1, 1]
def lrgP2 : List Nat := [0, 1, 0, 1, 1, 1]
noncomputable def lrgK (p : List Nat) : Code := codeAt (codeOf Try.prog 6) (0 :: p)
def jS (k : Nat) (i : Int) : Nat × S2.SV := (k, .inl ([true], .int .i64 i))
def lrgS (c : Cn) (l : List (Nat × S2.SV)) : S2.St := { tmps := [(1, .inr (0, 0, none)), (2, .inl ([], .bool false))] ++ l, own := ⟨[cnB c], []⟩, lo := 0, llo := 0, mem := true, orc := [], obl := [] }
def lrgQ (l : List Nat) : Pick := { ts := [1, 2] ++ l, bs := [0], ls := [], opn := l }
noncomputable def enLg (gl : Gl) : S2.Env := { envk Try.prog gl false noT noP noL with rowT := rowsC gl }
theorem enLg_ok (gl : Gl) : CallOk (enLg gl) := envk_ok (nw := false) (.none _ _) (.none _ _) (.none _ _)
theorem add1_eq (k : Nat) (h : k < 1000000) : arZ .add .i64 (k : Int) 1 = ((k + 1 : Nat) : Int) := by
 rw [arZ_eq]
 show IntKind.i64.wrap ((k : Int) + 1) = _
 rw [IntKind.wrap_i64]; omega
noncomputable def lrgH (gl : Gl) (c : Cn) : Nat -> Int
 | 0 => arZ .add .i64 (c.hn : Int) (c.rn : Int)
 | k + 1 => arZ .add .i64 (lrgH gl c k) (lenV (c.hv gl k) : Nat)
noncomputable def lrgW (gl : Gl) (c : Cn) : Nat -> Int
 | 0 => lrgH gl c (min c.hn 20)
 | k + 1 => arZ .add .i64 (lrgW gl c k) (lenV (c.rv gl k) : Nat)
noncomputable def lrgB (gl : Gl) (c : Cn) : Bool := if 20 < c.hn then true else if 200 < c.rn then true else decide (lrgW gl c (min c.rn 200) > 1500)
theorem lrgZ_ex : ∃ f : Gl -> Cn -> Bool, ∀ gl c, f gl c = lrgB gl c := ⟨_, fun _ _ => rfl⟩
noncomputable def lrgZ : Gl -> Cn -> Bool := Classical.choose lrgZ_ex
theorem lrgZ_eq (gl : Gl) (c : Cn) : lrgZ gl c = lrgB gl c := Classical.choose_spec lrgZ_ex gl c
theorem lrg1_step (gl : Gl) (c : Cn) (hc : CnOk gl c) (y : Int) (k : Nat) (hk : k < c.hn) (h2 : k < 20) (W : World) (hG : GlobOk gl W) : S2.Sem (enLg gl) W 66 (lrgK lrgP1) (lrgS c [jS 3 y, iS 4 k]) none (lrgS c [jS 3 (arZ .add .i64 y (lenV (c.hv gl k) : Nat)), iS 4 (k + 1)]) := by
 have key : S2.Sem (enLg gl) W 66 (lrgK lrgP1) (lrgS c [jS 3 y, iS 4 k]) none (lrgS c [jS 3 (arZ .add .i64 y (lenV (c.hv gl k) : Nat)), jS 4 (arZ .add .i64 (k : Int) 1)]) := by
   refine sem_iter (enLg_ok gl) hG (p := lrgQ [3, 4]) (fuel := 1000) [true, true] [(pre (rowB gl (c.hv gl k) (rcE gl (c.hv gl k))), true), (pre (rowB gl c.h (hsE gl c.h)), true), (pre (decide (k < c.hn)), true), (pre (rowB gl c.h (hsE gl c.h)), true), (pre (idxB (k : Int) c.hn), true), (decide ((k : Int) < 20), true), (decide ((k : Int) < (c.hn : Int)), true), (pre (rowB gl c.h (hsE gl c.h)), true)] (by kernel_rfl) (by kernel_rfl) ?_
   refine qF ?_ ?_ ?_ ?_ <| qF ?_ ?_ ?_ ?_ <| qZ
   . exact rowB_ok.mpr (hc.rc _ hk)
   . exact rowB_ok.mpr hc.hs
   . exact ob_lt (by omega)
   . exact rowB_ok.mpr hc.hs
   . exact ob_idx (by omega)
   . exact ob_yes (by omega)
   . exact ob_yes (by omega)
   . exact rowB_ok.mpr hc.hs
 rw [add1_eq k (by omega)] at key
 exact key
theorem lrg1_end (gl : Gl) (c : Cn) (hc : CnOk gl c) (y : Int) (k : Nat) (hk : k = min c.hn 20) (W : World) (hG : GlobOk gl W) : S2.Sem (enLg gl) W 66 (lrgK lrgP1) (lrgS c [jS 3 y, iS 4 k]) (some (some 0)) (lrgS c [jS 3 y, iS 4 k]) := by
 by_cases h : c.hn <= 20
 . refine sem_iter (enLg_ok gl) hG (p := lrgQ [3, 4]) (fuel := 1000) [false] [(decide ((k : Int) < (c.hn : Int)), false), (pre (rowB gl c.h (hsE gl c.h)), true)] (by kernel_rfl) (by kernel_rfl) ?_
   exact qA (ob_no (by omega)) <| qA (rowB_ok.mpr hc.hs) qZ
 . refine sem_iter (enLg_ok gl) hG (p := lrgQ [3, 4]) (fuel := 1000) [true, false] [(decide ((k : Int) < 20), false), (decide ((k : Int) < (c.hn : Int)), true), (pre (rowB gl c.h (hsE gl c.h)), true)] (by kernel_rfl) (by kernel_rfl) ?_
   exact qA (ob_no (by omega)) <| qA (ob_yes (by omega)) <| qA (rowB_ok.mpr hc.hs) qZ
theorem lrg1_all (gl : Gl) (c : Cn) (hc : CnOk gl c) (W : World) (hG : GlobOk gl W) : S2.Sem (enLg gl) W 66 (.loop (lrgK lrgP1)) (lrgS c [jS 3 (lrgH gl c 0), iS 4 0]) (some (some 0)) (lrgS c [jS 3 (lrgH gl c (min c.hn 20)), iS 4 (min c.hn 20)]) :=
 sem_loop (E := enLg gl) (w0 := base0 W) (nb := 0) (nl := 0) (n := 66) (c := lrgK lrgP1) (x := some (some 0)) (s' := lrgS c [jS 3 (lrgH gl c (min c.hn 20)), iS 4 (min c.hn 20)]) (fun z => lrgS c [jS 3 (lrgH gl c z), iS 4 z]) (min c.hn 20) (by simp) (fun z hz => lrg1_step gl c hc _ z (by omega) (by omega) W hG) (lrg1_end gl c hc _ _ rfl W hG)
theorem lrg2_step (gl : Gl) (c : Cn) (hc : CnOk gl c) (y : Int) (k : Nat) (hk : k < c.rn) (h2 : k < 200) (W : World) (hG : GlobOk gl W) : S2.Sem (enLg gl) W 66 (lrgK lrgP2) (lrgS c [jS 3 y, iS 5 k]) none (lrgS c [jS 3 (arZ .add .i64 y (lenV (c.rv gl k) : Nat)), iS 5 (k + 1)]) := by
 have key : S2.Sem (enLg gl) W 66 (lrgK lrgP2) (lrgS c [jS 3 y, iS 5 k]) none (lrgS c [jS 3 (arZ .add .i64 y (lenV (c.rv gl k) : Nat)), jS 5 (arZ .add .i64 (k : Int) 1)]) := by
   refine sem_iter (enLg_ok gl) hG (p := lrgQ [3, 5]) (fuel := 1000) [true, true] [(pre (rowB gl (c.rv gl k) (rfE gl (c.rv gl k))), true), (pre (rowB gl c.r (rwE gl c.r)), true), (pre (decide (k < c.rn)), true), (pre (rowB gl c.r (rwE gl c.r)), true), (pre (decide (k < c.rn)), true), (pre (rowB gl c.r (rwE gl c.r)), true), (pre (idxB (k : Int) c.rn), true), (decide ((k : Int) < 200), true), (decide ((k : Int) < (c.rn : Int)), true), (pre (rowB gl c.r (rwE gl c.r)), true)] (by kernel_rfl) (by kernel_rfl) ?_
   refine qF ?_ ?_ ?_ ?_ <| qF ?_ ?_ ?_ ?_ <| qA ?_ <| qA ?_ <| qZ
   . exact rowB_ok.mpr (hc.rf _ hk)
   . exact rowB_ok.mpr hc.rw
   . exact ob_lt (by omega)
   . exact rowB_ok.mpr hc.rw
   . exact ob_lt (by omega)
   . exact rowB_ok.mpr hc.rw
   . exact ob_idx (by omega)
   . exact ob_yes (by omega)
   . exact ob_yes (by omega)
   . exact rowB_ok.mpr hc.rw
 rw [add1_eq k (by omega)] at key
 exact key
theorem lrg2_end (gl : Gl) (c : Cn) (hc : CnOk gl c) (y : Int) (k : Nat) (hk : k = min c.rn 200) (W : World) (hG : GlobOk gl W) : S2.Sem (enLg gl) W 66 (lrgK lrgP2) (lrgS c [jS 3 y, iS 5 k]) (some (some 2)) (lrgS c [jS 3 y, iS 5 k]) := by
 by_cases h : c.rn <= 200
 . refine sem_iter (enLg_ok gl) hG (p := lrgQ [3, 5]) (fuel := 1000) [false] [(decide ((k : Int) < (c.rn : Int)), false), (pre (rowB gl c.r (rwE gl c.r)), true)] (by kernel_rfl) (by kernel_rfl) ?_
   exact qA (ob_no (by omega)) <| qA (rowB_ok.mpr hc.rw) qZ
 . refine sem_iter (enLg_ok gl) hG (p := lrgQ [3, 5]) (fuel := 1000) [true, false] [(decide ((k : Int) < 200), false), (decide ((k : Int) < (c.rn : Int)), true), (pre (rowB gl c.r (rwE gl c.r)), true)] (by kernel_rfl) (by kernel_rfl) ?_
   exact qA (ob_no (by omega)) <| qA (ob_yes (by omega)) <| qA (rowB_ok.mpr hc.rw) qZ
theorem lrg2_all (gl : Gl) (c : Cn) (hc : CnOk gl c) (W : World) (hG : GlobOk gl W) : S2.Sem (enLg gl) W 66 (.loop (lrgK lrgP2)) (lrgS c [jS 3 (lrgW gl c 0), iS 5 0]) (some (some 2)) (lrgS c [jS 3 (lrgW gl c (min c.rn 200)), iS 5 (min c.rn 200)]) :=
 sem_loop (E := enLg gl) (w0 := base0 W) (nb := 0) (nl := 0) (n := 66) (c := lrgK lrgP2) (x := some (some 2)) (s' := lrgS c [jS 3 (lrgW gl c (min c.rn 200)), iS 5 (min c.rn 200)]) (fun z => lrgS c [jS 3 (lrgW gl c z), iS 5 z]) (min c.rn 200) (by simp) (fun z hz => lrg2_step gl c hc _ z (by omega) (by omega) W hG) (lrg2_end gl c hc _ _ rfl W hG)
theorem large_ret {gl : Gl} (c : Cn) (hc : CnOk gl c) (w : World) (hG : GlobOk gl w) : Ret Try.prog 6 #[cnV c] (.bool (lrgZ gl c)) w := by
 rw [lrgZ_eq]
 refine LRet.plain (?_ : LRet Try.prog 6 [cnV c] false [.inl (.bool _)] w)
 have ha : ArgsOk w [.inl (cnV c)] [cnV c] := ⟨rfl, trivial⟩
 unfold lrgB
 by_cases h0 : 20 < c.hn
 . rw [if_pos h0]
   refine fn_ok (enLg_ok gl) (fuel := 1000) (d := 30) (plan := [⟨lrgP1, lrgQ [3, 4], some (some 0), lrgS c [jS 3 (lrgH gl c (min c.hn 20)), iS 4 (min c.hn 20)]⟩, ⟨lrgP2, lrgQ [3, 5], some (some 2), lrgS c [jS 3 (lrgW gl c (min c.rn 200)), iS 5 (min c.rn 200)]⟩]) (orc := [true]) (fls := [[true, true]]) (l := [(decide ((c.hn : Int) > 20), true), (pre (rowB gl c.h (hsE gl c.h)), true), (pre (rowB gl c.r (rwE gl c.r)), true), (pre (rowB gl c.h (hsE gl c.h)), true)]) (tr := [⟨.loop (lrgK lrgP1), lrgS c [jS 3 (lrgH gl c 0), iS 4 0], some (some 0), lrgS c [jS 3 (lrgH gl c (min c.hn 20)), iS 4 (min c.hn 20)]⟩, ⟨.loop (lrgK lrgP2), lrgS c [jS 3 (lrgW gl c 0), iS 5 0], some (some 2), lrgS c [jS 3 (lrgW gl c (min c.rn 200)), iS 5 (min c.rn 200)]⟩]) (by kernel_rfl) ?_ Try.func6 w _ hG ha fun t ht => ?_
   . exact qA (ob_yes (by omega)) <| qA (rowB_ok.mpr hc.hs) <| qA (rowB_ok.mpr hc.rw) <| qA (rowB_ok.mpr hc.hs) qZ
   . rcases List.mem_cons.mp ht with rfl | ht
     . exact lrg1_all gl c hc w hG
     . obtain rfl := List.mem_singleton.mp ht
       exact lrg2_all gl c hc w hG
 . rw [if_neg h0]
   by_cases h1 : 200 < c.rn
   . rw [if_pos h1]
     refine fn_ok (enLg_ok gl) (fuel := 1000) (d := 30) (plan := [⟨lrgP1, lrgQ [3, 4], some (some 0), lrgS c [jS 3 (lrgH gl c (min c.hn 20)), iS 4 (min c.hn 20)]⟩, ⟨lrgP2, lrgQ [3, 5], some (some 2), lrgS c [jS 3 (lrgW gl c (min c.rn 200)), iS 5 (min c.rn 200)]⟩]) (orc := [false, true]) (fls := [[true, true]]) (l := [(decide ((c.rn : Int) > 200), true), (pre (rowB gl c.r (rwE gl c.r)), true), (decide ((c.hn : Int) > 20), false), (pre (rowB gl c.h (hsE gl c.h)), true), (pre (rowB gl c.r (rwE gl c.r)), true), (pre (rowB gl c.h (hsE gl c.h)), true)]) (tr := [⟨.loop (lrgK lrgP1), lrgS c [jS 3 (lrgH gl c 0), iS 4 0], some (some 0), lrgS c [jS 3 (lrgH gl c (min c.hn 20)), iS 4 (min c.hn 20)]⟩, ⟨.loop (lrgK lrgP2), lrgS c [jS 3 (lrgW gl c 0), iS 5 0], some (some 2), lrgS c [jS 3 (lrgW gl c (min c.rn 200)), iS 5 (min c.rn 200)]⟩]) (by kernel_rfl) ?_ Try.func6 w _ hG ha fun t ht => ?_
     . exact qA (ob_yes (by omega)) <| qA (rowB_ok.mpr hc.rw) <| qA (ob_no (by omega)) <| qA (rowB_ok.mpr hc.hs) <| qA (rowB_ok.mpr hc.rw) <| qA (rowB_ok.mpr hc.hs) qZ
     . rcases List.mem_cons.mp ht with rfl | ht
       . exact lrg1_all gl c hc w hG
       . obtain rfl := List.mem_singleton.mp ht
         exact lrg2_all gl c hc w hG
   . rw [if_neg h1]
     refine fn_ok (enLg_ok gl) (fuel := 1000) (d := 30) (plan := [⟨lrgP1, lrgQ [3, 4], some (some 0), lrgS c [jS 3 (lrgH gl c (min c.hn 20)), iS 4 (min c.hn 20)]⟩, ⟨lrgP2, lrgQ [3, 5], some (some 2), lrgS c [jS 3 (lrgW gl c (min c.rn 200)), iS 5 (min c.rn 200)]⟩]) (orc := [false, false]) (fls := [[true, true]]) (l := [(decide ((c.rn : Int) > 200), false), (pre (rowB gl c.r (rwE gl c.r)), true), (decide ((c.hn : Int) > 20), false), (pre (rowB gl c.h (hsE gl c.h)), true), (pre (rowB gl c.r (rwE gl c.r)), true), (pre (rowB gl c.h (hsE gl c.h)), true)]) (tr := [⟨.loop (lrgK lrgP1), lrgS c [jS 3 (lrgH gl c 0), iS 4 0], some (some 0), lrgS c [jS 3 (lrgH gl c (min c.hn 20)), iS 4 (min c.hn 20)]⟩, ⟨.loop (lrgK lrgP2), lrgS c [jS 3 (lrgW gl c 0), iS 5 0], some (some 2), lrgS c [jS 3 (lrgW gl c (min c.rn 200)), iS 5 (min c.rn 200)]⟩]) (by kernel_rfl) ?_ Try.func6 w _ hG ha fun t ht => ?_
     . exact qA (ob_no (by omega)) <| qA (rowB_ok.mpr hc.rw) <| qA (ob_no (by omega)) <| qA (rowB_ok.mpr hc.hs) <| qA (rowB_ok.mpr hc.rw) <| qA (rowB_ok.mpr hc.hs) qZ
     . rcases List.mem_cons.mp ht with rfl | ht
       . exact lrg1_all gl c hc w hG
       . obtain rfl := List.mem_singleton.mp ht
         exact lrg2_all gl c hc w hG
theorem lrg_few {gl : Gl} {c : Cn} (h : lrgZ gl c = false) : c.hn <= 20 /\ c.rn <= 200 := by
 rw [lrgZ_eq] at h
 unfold lrgB at h
 by_cases h0 : 20 < c.hn
 . rw [if_pos h0] at h; cases h
 . rw [if_neg h0] at h
   by_cases h1 : 200 < c.rn
   . rw [if_pos h1] at h; cases h
   . exact ⟨by omega, by omega⟩
noncomputable def pLarge (gl : Gl) : PTab := prow 6 decC1 (fun x => .bool (lrgZ gl x)) (fun x => propB (CnOk gl x))
theorem pLarge_ok {gl : Gl} : PTabOk Try.prog gl (pLarge gl) := .row decC1_eq fun x h w hG => large_ret x (propB_ok.mp h) w hG
end Go.Proofs.Ytmaffamhjmlonaa
