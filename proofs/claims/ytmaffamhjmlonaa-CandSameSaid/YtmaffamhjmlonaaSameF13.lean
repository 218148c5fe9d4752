/- Layer 13: the reference: Same, whole. -/
import Derived.Test.YtmaffamhjmlonaaSame13
set_option linter.unusedVariables false
set_option linter.unusedSimpArgs false
namespace Go.Proofs.Ytmaffamhjmlonaa
open Go.RowKit Sim S2
theorem refSame_ret {gl : Gl} (c d : Cn) (hc : CnOk gl c) (hd : CnOk gl d) (sc : CnSm gl c) (w : World) (hG : GlobOk gl w) : Ret Try.prog 14 #[cnV c, cnV d] (.bool (sameZ gl c d)) w := by
 rw [sameZ_eq]
 refine LRet.plain (?_ : LRet Try.prog 14 [cnV c, cnV d] false [.inl (.bool _)] w)
 have ha : ArgsOk w [.inl (cnV c), .inl (cnV d)] [cnV c, cnV d] := ⟨rfl, rfl, trivial⟩
 have bt : ∀ {a b : Nat}, a = b -> Nat.beq a b = true := fun h => by rw [h]; exact Nat.beq_refl _
 have bf : ∀ {a b : Nat}, a ≠ b -> Nat.beq a b = false := fun h => by rw [<- Bool.not_eq_true]; exact fun hb => h (qB hb)
 unfold sameB
 by_cases hhn : c.hn = d.hn
 . by_cases hrn : c.rn = d.rn
   . by_cases h1 : skipN (eqH gl c d) c.hn 0 = c.hn
     . by_cases h2 : skipN (eqW gl c d) c.rn 0 = c.rn
       . rw [bt hhn, bt hrn, bt h1, bt h2]
         refine fn_ok (enE_ok gl) (fuel := 1000) (d := 30) (plan := [⟨smP, smQ [5], some (some 0), smS c d [iS 5 c.hn]⟩, ⟨smR, smQ [7], some (some 4), smS c d [iS 7 c.rn]⟩]) (orc := [false, false]) (fls := [[true, true], [true, true]]) (l := [((c.rn : Int) != (d.rn : Int), false), (pre (rowB gl d.r (rwE gl d.r)), true), (pre (rowB gl c.r (rwE gl c.r)), true), ((c.hn : Int) != (d.hn : Int), false), (pre (rowB gl d.h (hsE gl d.h)), true), (pre (rowB gl c.h (hsE gl c.h)), true)]) (tr := [⟨.loop (smK smP), smS c d [iS 5 0], some (some 0), smS c d [iS 5 c.hn]⟩, ⟨.loop (smK smR), smS c d [iS 7 0], some (some 4), smS c d [iS 7 c.rn]⟩]) (by kernel_rfl) ?_ Try.func14 w _ hG ha fun t ht => ?_
         . refine qF ?_ ?_ ?_ ?_ <| qA ?_ <| qA ?_ <| qZ
           . rw [hrn]; simp
           . exact rowB_ok.mpr (by first | exact hc.hs | exact hd.hs | exact hc.rw | exact hd.rw | exact hc.rc _ (by omega) | exact hd.rc _ (by omega) | exact hc.rf _ (by omega) | exact hd.rf _ (by omega))
           . exact rowB_ok.mpr (by first | exact hc.hs | exact hd.hs | exact hc.rw | exact hd.rw | exact hc.rc _ (by omega) | exact hd.rc _ (by omega) | exact hc.rf _ (by omega) | exact hd.rf _ (by omega))
           . rw [hhn]; simp
           . exact rowB_ok.mpr (by first | exact hc.hs | exact hd.hs | exact hc.rw | exact hd.rw | exact hc.rc _ (by omega) | exact hd.rc _ (by omega) | exact hc.rf _ (by omega) | exact hd.rf _ (by omega))
           . exact rowB_ok.mpr (by first | exact hc.hs | exact hd.hs | exact hc.rw | exact hd.rw | exact hc.rc _ (by omega) | exact hd.rc _ (by omega) | exact hc.rf _ (by omega) | exact hd.rf _ (by omega))
         . rcases List.mem_cons.mp ht with rfl | ht
           . exact smo_yes gl c d hc hd sc hhn h1 w hG
           . obtain rfl := List.mem_singleton.mp ht
             exact smr_yes gl c d hc hd sc hrn h2 w hG
       . rw [bt hhn, bt hrn, bt h1, bf h2]
         refine fn_ok (enE_ok gl) (fuel := 1000) (d := 30) (plan := [⟨smP, smQ [5], some (some 0), smS c d [iS 5 c.hn]⟩, ⟨smR, smQ [7], some none, smF⟩]) (orc := [false, false]) (fls := [[true, true], [true, true]]) (l := [((c.rn : Int) != (d.rn : Int), false), (pre (rowB gl d.r (rwE gl d.r)), true), (pre (rowB gl c.r (rwE gl c.r)), true), ((c.hn : Int) != (d.hn : Int), false), (pre (rowB gl d.h (hsE gl d.h)), true), (pre (rowB gl c.h (hsE gl c.h)), true)]) (tr := [⟨.loop (smK smP), smS c d [iS 5 0], some (some 0), smS c d [iS 5 c.hn]⟩, ⟨.loop (smK smR), smS c d [iS 7 0], some none, smF⟩]) (by kernel_rfl) ?_ Try.func14 w _ hG ha fun t ht => ?_
         . refine qF ?_ ?_ ?_ ?_ <| qA ?_ <| qA ?_ <| qZ
           . rw [hrn]; simp
           . exact rowB_ok.mpr (by first | exact hc.hs | exact hd.hs | exact hc.rw | exact hd.rw | exact hc.rc _ (by omega) | exact hd.rc _ (by omega) | exact hc.rf _ (by omega) | exact hd.rf _ (by omega))
           . exact rowB_ok.mpr (by first | exact hc.hs | exact hd.hs | exact hc.rw | exact hd.rw | exact hc.rc _ (by omega) | exact hd.rc _ (by omega) | exact hc.rf _ (by omega) | exact hd.rf _ (by omega))
           . rw [hhn]; simp
           . exact rowB_ok.mpr (by first | exact hc.hs | exact hd.hs | exact hc.rw | exact hd.rw | exact hc.rc _ (by omega) | exact hd.rc _ (by omega) | exact hc.rf _ (by omega) | exact hd.rf _ (by omega))
           . exact rowB_ok.mpr (by first | exact hc.hs | exact hd.hs | exact hc.rw | exact hd.rw | exact hc.rc _ (by omega) | exact hd.rc _ (by omega) | exact hc.rf _ (by omega) | exact hd.rf _ (by omega))
         . rcases List.mem_cons.mp ht with rfl | ht
           . exact smo_yes gl c d hc hd sc hhn h1 w hG
           . obtain rfl := List.mem_singleton.mp ht
             exact smr_no gl c d hc hd sc hrn h2 w hG
     . rw [bt hhn, bt hrn, bf h1]
       refine fn_ok (enE_ok gl) (fuel := 1000) (d := 30) (plan := [⟨smP, smQ [5], some none, smF⟩]) (orc := [false, false]) (fls := [[true, true], [true, true]]) (l := [((c.rn : Int) != (d.rn : Int), false), (pre (rowB gl d.r (rwE gl d.r)), true), (pre (rowB gl c.r (rwE gl c.r)), true), ((c.hn : Int) != (d.hn : Int), false), (pre (rowB gl d.h (hsE gl d.h)), true), (pre (rowB gl c.h (hsE gl c.h)), true)]) (tr := [⟨.loop (smK smP), smS c d [iS 5 0], some none, smF⟩]) (by kernel_rfl) ?_ Try.func14 w _ hG ha fun t ht => ?_
       . refine qF ?_ ?_ ?_ ?_ <| qA ?_ <| qA ?_ <| qZ
         . rw [hrn]; simp
         . exact rowB_ok.mpr (by first | exact hc.hs | exact hd.hs | exact hc.rw | exact hd.rw | exact hc.rc _ (by omega) | exact hd.rc _ (by omega) | exact hc.rf _ (by omega) | exact hd.rf _ (by omega))
         . exact rowB_ok.mpr (by first | exact hc.hs | exact hd.hs | exact hc.rw | exact hd.rw | exact hc.rc _ (by omega) | exact hd.rc _ (by omega) | exact hc.rf _ (by omega) | exact hd.rf _ (by omega))
         . rw [hhn]; simp
         . exact rowB_ok.mpr (by first | exact hc.hs | exact hd.hs | exact hc.rw | exact hd.rw | exact hc.rc _ (by omega) | exact hd.rc _ (by omega) | exact hc.rf _ (by omega) | exact hd.rf _ (by omega))
         . exact rowB_ok.mpr (by first | exact hc.hs | exact hd.hs | exact hc.rw | exact hd.rw | exact hc.rc _ (by omega) | exact hd.rc _ (by omega) | exact hc.rf _ (by omega) | exact hd.rf _ (by omega))
       . obtain rfl := List.mem_singleton.mp ht
         exact smo_no gl c d hc hd sc hhn h1 w hG
   . rw [bt hhn, bf hrn]
     refine fn_ok (enE_ok gl) (fuel := 1000) (d := 30) (plan := []) (orc := [false, true]) (fls := [[true, true], [true, true]]) (l := [((c.rn : Int) != (d.rn : Int), true), (pre (rowB gl d.r (rwE gl d.r)), true), (pre (rowB gl c.r (rwE gl c.r)), true), ((c.hn : Int) != (d.hn : Int), false), (pre (rowB gl d.h (hsE gl d.h)), true), (pre (rowB gl c.h (hsE gl c.h)), true)]) (tr := []) (by kernel_rfl) ?_ Try.func14 w _ hG ha fun t ht => ?_
     . refine qF ?_ ?_ ?_ ?_ <| qA ?_ <| qA ?_ <| qZ
       . rw [bne_iff_ne]; omega
       . exact rowB_ok.mpr (by first | exact hc.hs | exact hd.hs | exact hc.rw | exact hd.rw | exact hc.rc _ (by omega) | exact hd.rc _ (by omega) | exact hc.rf _ (by omega) | exact hd.rf _ (by omega))
       . exact rowB_ok.mpr (by first | exact hc.hs | exact hd.hs | exact hc.rw | exact hd.rw | exact hc.rc _ (by omega) | exact hd.rc _ (by omega) | exact hc.rf _ (by omega) | exact hd.rf _ (by omega))
       . rw [hhn]; simp
       . exact rowB_ok.mpr (by first | exact hc.hs | exact hd.hs | exact hc.rw | exact hd.rw | exact hc.rc _ (by omega) | exact hd.rc _ (by omega) | exact hc.rf _ (by omega) | exact hd.rf _ (by omega))
       . exact rowB_ok.mpr (by first | exact hc.hs | exact hd.hs | exact hc.rw | exact hd.rw | exact hc.rc _ (by omega) | exact hd.rc _ (by omega) | exact hc.rf _ (by omega) | exact hd.rf _ (by omega))
     . cases ht
 . rw [bf hhn]
   refine fn_ok (enE_ok gl) (fuel := 1000) (d := 30) (plan := []) (orc := [true]) (fls := [[true, true], [true, true]]) (l := [((c.hn : Int) != (d.hn : Int), true), (pre (rowB gl d.h (hsE gl d.h)), true), (pre (rowB gl c.h (hsE gl c.h)), true)]) (tr := []) (by kernel_rfl) ?_ Try.func14 w _ hG ha fun t ht => ?_
   . refine qA ?_ <| qA ?_ <| qA ?_ <| qZ
     . rw [bne_iff_ne]; omega
     . exact rowB_ok.mpr (by first | exact hc.hs | exact hd.hs | exact hc.rw | exact hd.rw | exact hc.rc _ (by omega) | exact hd.rc _ (by omega) | exact hc.rf _ (by omega) | exact hd.rf _ (by omega))
     . exact rowB_ok.mpr (by first | exact hc.hs | exact hd.hs | exact hc.rw | exact hd.rw | exact hc.rc _ (by omega) | exact hd.rc _ (by omega) | exact hc.rf _ (by omega) | exact hd.rf _ (by omega))
   . cases ht
def decCC : List Value -> Option (Cn × Cn)
 | [.agg ⟨[.slice a n c, .slice b m d]⟩, .agg ⟨[.slice a2 n2 c2, .slice b2 m2 d2]⟩] => some (⟨a, n, c, b, m, d⟩, ⟨a2, n2, c2, b2, m2, d2⟩)
 | _ => none
theorem decCC_eq : ∀ l x, decCC l = some x -> l = [cnV x.1, cnV x.2] := fun l x h => by
 unfold decCC at h
 split at h
 . simp only [qS] at h
   subst h; rfl
 . cases h
noncomputable def pRefSame (gl : Gl) : PTab := prow 14 decCC (fun x => .bool (sameZ gl x.1 x.2)) (fun x => propB (CnOk gl x.1 /\ CnOk gl x.2 /\ CnSm gl x.1))
theorem pRefSame_ok {gl : Gl} : PTabOk Try.prog gl (pRefSame gl) := .row decCC_eq fun x h w hG => by
 obtain ⟨h1, h2, h3⟩ := propB_ok.mp h
 exact refSame_ret x.1 x.2 h1 h2 h3 w hG
end Go.Proofs.Ytmaffamhjmlonaa
