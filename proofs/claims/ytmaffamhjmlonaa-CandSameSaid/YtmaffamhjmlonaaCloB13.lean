/- Layer 13: package cand: Clone: its loops' rounds. -/
import Derived.Test.YtmaffamhjmlonaaCloR13
set_option linter.unusedVariables false
set_option linter.unusedSimpArgs false
namespace Go.Proofs.Ytmaffamhjmlonaa
open Go Go.RowKit Sim S2
noncomputable def elH (gl : Gl) (c : Cn) : Nat -> List Value := fun j => [slG gl (.slice c.ha c.hn c.hc) 1 0 j]
noncomputable def elR (gl : Gl) (c : Cn) : Nat -> List Value := fun j => [.int .i64 (raG gl (.slice c.ra c.rn c.rc) j), slG gl (.slice c.ra c.rn c.rc) 2 1 j]
def coI (c : Cn) : S2.St := coS [(0, .inl ([true, true], cnV c))] [] []
def co0 (c : Cn) : S2.St := coS [(1, .inr (0, 0, none)), (2, .inr (1, 0, none))] [zC (pV (.slice c.ha c.hn c.hc)) (pV (.slice c.ra c.rn c.rc)), zC (pV (.slice none 0 0)) (pV (.slice none 0 0))] []
noncomputable def co1 (gl : Gl) (c : Cn) : S2.St := coS [(1, .inr (0, 0, none)), (2, .inr (1, 0, none)), (3, .inr (2, 0, none))] (coM c) (coL c (elH gl c) (elR gl c))
def coA (c : Cn) (e1 e2 : Nat -> List Value) (i : Nat) : S2.St := coS (coT1 c i) (coM c) (coL c e1 e2)
def coAx (c : Cn) (e1 e2 : Nat -> List Value) (i : Nat) (x : Nat × S2.SV) : S2.St := coS (coT1 c i ++ [x]) (coM c) (coL c e1 e2)
def coD (c : Cn) (e1 e2 : Nat -> List Value) (i : Nat) : S2.St := coS (coT2 c i) (coM c) (coL c e1 e2)
def coDx (c : Cn) (e1 e2 : Nat -> List Value) (i : Nat) (x : Nat × S2.SV) : S2.St := coS (coT2 c i ++ [x]) (coM c) (coL c e1 e2)
def coZ (c : Cn) (e1 e2 : Nat -> List Value) : S2.St := coS [(2, .inr (0, 0, none))] [zC (.c 0) (.c 1)] (coL c e1 e2)
def pA : Pick := { ts := [1, 2, 3, 16, 17, 18], bs := [0, 1, 2], ls := [0, 1], opn := [18] }
def pAx : Pick := { ts := [1, 2, 3, 16, 17, 18, 19], bs := [0, 1, 2], ls := [0, 1], opn := [18, 19] }
def pD : Pick := { ts := [1, 2, 3, 31, 32, 33], bs := [0, 1, 2], ls := [0, 1], opn := [33] }
def pDx : Pick := { ts := [1, 2, 3, 31, 32, 33, 34], bs := [0, 1, 2], ls := [0, 1], opn := [33, 34] }
section
variable (gl : Gl) (c : Cn) (w0 : S2.Base) (hG : GlobB (enO gl) w0)
include hG
theorem co_r0 : SemA (enO gl) w0 0 0 48 (coC [0]) (coI c) none (co0 c) :=
 semA_iter (enO_ok gl) hG (p := { ts := [1, 2], bs := [0, 1], ls := [], opb := [0, 1] }) (fuel := 1000) [] [] (by kernel_rfl) (by kernel_rfl) qZ
theorem co_r1 (h1 : fitV gl (.slice c.ha c.hn c.hc) (hsE gl (.slice c.ha c.hn c.hc)) 24) (h2 : fitV gl (.slice c.ra c.rn c.rc) (rwE gl (.slice c.ra c.rn c.rc)) 32) : SemA (enO gl) w0 0 0 48 (coC [0, 1]) (co0 c) none (co1 gl c) :=
 semA_iter (enO_ok gl) hG (p := { ts := [1, 2, 3], bs := [0, 1, 2], ls := [0, 1] }) (fuel := 1000) [] [(pre (propB (fitV gl (.slice c.ra c.rn c.rc) (rwE gl (.slice c.ra c.rn c.rc)) 32)), true), (pre (propB (fitV gl (.slice c.ha c.hn c.hc) (hsE gl (.slice c.ha c.hn c.hc)) 24)), true)] (by kernel_rfl) (by kernel_rfl) (qA (propB_ok.mpr h2) <| qA (propB_ok.mpr h1) qZ)
theorem co_r2 (h1 : rowG gl (.slice c.ha c.hn c.hc) (hsE gl (.slice c.ha c.hn c.hc))) : SemA (enO gl) w0 0 0 48 (coC [0, 0, 1, 1]) (co1 gl c) none (coA c (elH gl c) (elR gl c) 0) :=
 semA_iter (enO_ok gl) hG (p := pA) (fuel := 1000) [] [(pre (rowB gl (.slice c.ha c.hn c.hc) (hsE gl (.slice c.ha c.hn c.hc))), true)] (by kernel_rfl) (by kernel_rfl) (qA (rowB_ok.mpr h1) qZ)
theorem co_t (e1 e2 : Nat -> List Value) (i : Nat) : SemA (enO gl) w0 0 0 48 (codeAt coK1 [0]) (coA c e1 e2 i) none (coAx c e1 e2 i (19, .inl ([true], .bool (decide ((i : Int) < (c.hn : Int)))))) :=
 semA_iter (enO_ok gl) hG (p := pAx) (fuel := 1000) [] [] (by kernel_rfl) (by kernel_rfl) qZ
theorem co_go (e1 e2 : Nat -> List Value) (i : Nat) (hi : i < c.hn) : SemA (enO gl) w0 0 0 48 (codeAt coK1 [0, 1]) (coAx c e1 e2 i (19, .inl ([true], .bool (decide ((i : Int) < (c.hn : Int)))))) none (coA c e1 e2 i) :=
 semA_iter (enO_ok gl) hG (p := pA) (fuel := 1000) [true] [(decide ((i : Int) < (c.hn : Int)), true)] (by kernel_rfl) (by kernel_rfl) (qA (ob_yes (by omega)) qZ)
theorem co_done (e1 e2 : Nat -> List Value) (i : Nat) (hi : ¬ i < c.hn) : SemA (enO gl) w0 0 0 48 (codeAt coK1 [0, 1]) (coAx c e1 e2 i (19, .inl ([true], .bool (decide ((i : Int) < (c.hn : Int)))))) (some (some 0)) (coA c e1 e2 i) :=
 semA_iter (enO_ok gl) hG (p := pA) (fuel := 1000) [false] [(decide ((i : Int) < (c.hn : Int)), false)] (by kernel_rfl) (by kernel_rfl) (qA (ob_no (by omega)) qZ)
theorem co_inc (e1 e2 : Nat -> List Value) (i : Nat) (hi : i < 10000000) : SemA (enO gl) w0 0 0 48 (codeAt coK1 [1, 1, 1]) (coA c e1 e2 i) none (coA c e1 e2 (i + 1)) :=
 semA_iter (enO_ok gl) hG (p := pA) (fuel := 1000) [] [(pre (inI ((i : Int) + 1)), true)] (by kernel_rfl) (by kernel_rfl) (qA (ob_inI (by omega)) qZ)
theorem co_4 (e1 e2 : Nat -> List Value) (i : Nat) (hi : i < c.hn) (hn : c.hn <= 1000000) (h1 : rowG gl (.slice c.ha c.hn c.hc) (hsE gl (.slice c.ha c.hn c.hc))) : SemA (enO gl) w0 0 0 48 (codeAt coK1 [0, 0, 0, 1, 1]) (coA c e1 e2 i) none (coS5 c e1 e2 i (slG gl (.slice c.ha c.hn c.hc) 1 0 i)) :=
 semA_iter (enO_ok gl) hG (p := { ts := [1, 2, 3, 16, 17, 18, 4, 5], bs := [0, 1, 2], ls := [0, 1], opn := [18] }) (fuel := 1000) [] [(pre (rowB gl (.slice c.ha c.hn c.hc) (hsE gl (.slice c.ha c.hn c.hc))), true), (pre (decide (i < c.hn)), true), (pre (rowB gl (.slice c.ha c.hn c.hc) (hsE gl (.slice c.ha c.hn c.hc))), true), (pre (idxB (i : Int) c.hn), true)] (by kernel_rfl) (by kernel_rfl) (qA (rowB_ok.mpr h1) <| qA (ob_lt hi) <| qA (rowB_ok.mpr h1) <| qA (ob_idx (by omega)) qZ)
theorem co_r7 (e1 e2 : Nat -> List Value) (i : Nat) (h1 : rowG gl (.slice c.ra c.rn c.rc) (rwE gl (.slice c.ra c.rn c.rc))) : SemA (enO gl) w0 0 0 48 (coC [0, 0, 1, 1, 1]) (coA c e1 e2 i) none (coD c e1 e2 0) :=
 semA_iter (enO_ok gl) hG (p := pD) (fuel := 1000) [] [(pre (rowB gl (.slice c.ra c.rn c.rc) (rwE gl (.slice c.ra c.rn c.rc))), true)] (by kernel_rfl) (by kernel_rfl) (qA (rowB_ok.mpr h1) qZ)
theorem cd_t (e1 e2 : Nat -> List Value) (i : Nat) : SemA (enO gl) w0 0 0 48 (codeAt coK2 [0]) (coD c e1 e2 i) none (coDx c e1 e2 i (34, .inl ([true], .bool (decide ((i : Int) < (c.rn : Int)))))) :=
 semA_iter (enO_ok gl) hG (p := pDx) (fuel := 1000) [] [] (by kernel_rfl) (by kernel_rfl) qZ
theorem cd_go (e1 e2 : Nat -> List Value) (i : Nat) (hi : i < c.rn) : SemA (enO gl) w0 0 0 48 (codeAt coK2 [0, 1]) (coDx c e1 e2 i (34, .inl ([true], .bool (decide ((i : Int) < (c.rn : Int)))))) none (coD c e1 e2 i) :=
 semA_iter (enO_ok gl) hG (p := pD) (fuel := 1000) [true] [(decide ((i : Int) < (c.rn : Int)), true)] (by kernel_rfl) (by kernel_rfl) (qA (ob_yes (by omega)) qZ)
theorem cd_done (e1 e2 : Nat -> List Value) (i : Nat) (hi : ¬ i < c.rn) : SemA (enO gl) w0 0 0 48 (codeAt coK2 [0, 1]) (coDx c e1 e2 i (34, .inl ([true], .bool (decide ((i : Int) < (c.rn : Int)))))) (some (some 2)) (coD c e1 e2 i) :=
 semA_iter (enO_ok gl) hG (p := pD) (fuel := 1000) [false] [(decide ((i : Int) < (c.rn : Int)), false)] (by kernel_rfl) (by kernel_rfl) (qA (ob_no (by omega)) qZ)
theorem cd_inc (e1 e2 : Nat -> List Value) (i : Nat) (hi : i < 10000000) : SemA (enO gl) w0 0 0 48 (codeAt coK2 [1, 1, 1]) (coD c e1 e2 i) none (coD c e1 e2 (i + 1)) :=
 semA_iter (enO_ok gl) hG (p := pD) (fuel := 1000) [] [(pre (inI ((i : Int) + 1)), true)] (by kernel_rfl) (by kernel_rfl) (qA (ob_inI (by omega)) qZ)
theorem cd_9 (e1 e2 : Nat -> List Value) (i : Nat) (hi : i < c.rn) (hn : c.rn <= 1000000) (h1 : rowG gl (.slice c.ra c.rn c.rc) (rwE gl (.slice c.ra c.rn c.rc))) : SemA (enO gl) w0 0 0 48 (codeAt coK2 [0, 0, 0, 1, 1]) (coD c e1 e2 i) none (coS10 c e1 e2 i (raG gl (.slice c.ra c.rn c.rc) i) (slG gl (.slice c.ra c.rn c.rc) 2 1 i)) :=
 semA_iter (enO_ok gl) hG (p := { ts := [1, 2, 3, 31, 32, 33, 6, 7], bs := [0, 1, 2, 3], ls := [0, 1], opn := [33], opb := [3] }) (fuel := 1000) [] [(pre (rowB gl (.slice c.ra c.rn c.rc) (rwE gl (.slice c.ra c.rn c.rc))), true), (pre (decide (i < c.rn)), true), (pre (rowB gl (.slice c.ra c.rn c.rc) (rwE gl (.slice c.ra c.rn c.rc))), true), (pre (idxB (i : Int) c.rn), true)] (by kernel_rfl) (by kernel_rfl) (qA (rowB_ok.mpr h1) <| qA (ob_lt hi) <| qA (rowB_ok.mpr h1) <| qA (ob_idx (by omega)) qZ)
theorem co_r12 (e1 e2 : Nat -> List Value) (i : Nat) : SemA (enO gl) w0 0 0 48 (coC [0, 1, 1, 1, 1]) (coD c e1 e2 i) none (coZ c e1 e2) :=
 semA_iter (enO_ok gl) hG (p := { ts := [2], bs := [1], ls := [0, 1] }) (fuel := 1000) [] [] (by kernel_rfl) (by kernel_rfl) qZ
theorem co_ret (e1 e2 : Nat -> List Value) : SemA (enO gl) w0 0 0 48 (coC [1, 1, 1, 1, 1]) (coZ c e1 e2) (some none) (coZ c e1 e2) :=
 semA_iter (enO_ok gl) hG (p := { ts := [2], bs := [0], ls := [0, 1] }) (fuel := 1000) [] [] (by kernel_rfl) (by kernel_rfl) qZ
end
end Go.Proofs.Ytmaffamhjmlonaa
