/- Layer 13: package cand: Clone: the same content at new addresses. -/
import Derived.Test.YtmaffamhjmlonaaOpen13
import Derived.Test.YtmaffamhjmlonaaPEnc13
import Derived.Test.YtmaffamhjmlonaaMade13
import Derived.Test.YtmaffamhjmlonaaLaw13D
import Derived.Test.YtmaffamhjmlonaaAwk13
import Derived.Test.YtmaffamhjmlonaaCloB13
set_option linter.unusedVariables false
set_option linter.unusedSimpArgs false
namespace Go.Proofs.Ytmaffamhjmlonaa
open Go Go.RowKit Sim S2
theorem coB_eq : coB = .seq (coC [0]) (.seq (coC [0, 1]) (.seq (.seq (coC [0, 0, 1, 1]) (.block 0 (.loop coK1))) (.seq (.seq (coC [0, 0, 1, 1, 1]) (.block 2 (.loop coK2))) (.seq (coC [0, 1, 1, 1, 1]) (coC [1, 1, 1, 1, 1]))))) := by kernel_rfl
theorem coK1_eq : coK1 = .seq (codeAt coK1 [0]) (.seq (codeAt coK1 [0, 1]) (.seq (.block 1 (.seq (codeAt coK1 [0, 0, 0, 1, 1]) (.region (regI co5) (regO co5) true))) (codeAt coK1 [1, 1, 1]))) := by kernel_rfl
theorem coK2_eq : coK2 = .seq (codeAt coK2 [0]) (.seq (codeAt coK2 [0, 1]) (.seq (.block 3 (.seq (codeAt coK2 [0, 0, 0, 1, 1]) (.region (regI co10) (regO co10) true))) (codeAt coK2 [1, 1, 1]))) := by kernel_rfl
structure CnFit (gl : Gl) (c : Cn) : Prop where
 hn : c.hn <= 1000000
 rn : c.rn <= 1000000
 h : fitV gl (.slice c.ha c.hn c.hc) (hsE gl (.slice c.ha c.hn c.hc)) 24
 r : fitV gl (.slice c.ra c.rn c.rc) (rwE gl (.slice c.ra c.rn c.rc)) 32
 hv : ∀ i, i < c.hn -> fitV gl (slG gl (.slice c.ha c.hn c.hc) 1 0 i) (rcE gl (slG gl (.slice c.ha c.hn c.hc) 1 0 i)) 40
 rv : ∀ i, i < c.rn -> fitV gl (slG gl (.slice c.ra c.rn c.rc) 2 1 i) (rfE gl (slG gl (.slice c.ra c.rn c.rc) 2 1 i)) 16
def doneH (gl : Gl) (c : Cn) (F : Nat -> Option Obj) (e1 : Nat -> List Value) (j : Nat) : Prop := ∀ i, i < j -> ∃ u, e1 i = [u] /\ FRow F u (crE gl (slG gl (.slice c.ha c.hn c.hc) 1 0 i) (slN gl (.slice c.ha c.hn c.hc) 1 0 i))
def doneR (gl : Gl) (c : Cn) (F : Nat -> Option Obj) (e2 : Nat -> List Value) (j : Nat) : Prop := ∀ i, i < j -> ∃ u, e2 i = [.int .i64 (raG gl (.slice c.ra c.rn c.rc) i), u] /\ FRow F u (cfE gl (slG gl (.slice c.ra c.rn c.rc) 2 1 i) (slN gl (.slice c.ra c.rn c.rc) 2 1 i))
def I1 (gl : Gl) (c : Cn) (W0 : S2.Base) (j : Nat) (w1 : S2.Base) (s1 : S2.St) : Prop := w1.toWorld = W0.toWorld /\ FLe W0.F w1.F /\ ∃ e1, s1 = coA c e1 (elR gl c) j /\ (∀ i, (e1 i).length = 1) /\ doneH gl c w1.F e1 j
def I2 (gl : Gl) (c : Cn) (W0 : S2.Base) (j : Nat) (w1 : S2.Base) (s1 : S2.St) : Prop := w1.toWorld = W0.toWorld /\ FLe W0.F w1.F /\ ∃ e1 e2, s1 = coD c e1 e2 j /\ doneH gl c w1.F e1 c.hn /\ doneR gl c w1.F e2 j /\ ∀ i, j <= i -> e2 i = elR gl c i
theorem setE_at (f : Nat -> List Value) (i : Nat) (x : List Value) : setE f i x i = x := by
 show (bif Nat.beq i i then x else f i) = x
 rw [Nat.beq_refl]; rfl
theorem setE_ne (f : Nat -> List Value) (i j : Nat) (x : List Value) (h : j ≠ i) : setE f i x j = f j := by
 show (bif Nat.beq j i then x else f j) = f j
 cases hb : Nat.beq j i
 . rfl
 . exact absurd (qB hb) h
theorem put_one {l : List Value} (h : l.length = 1) (u : Value) : putL l 0 [u] = [u] := by
 match l, h with
 | [x], _ => rfl
theorem co_round {gl : Gl} {c : Cn} (hf : CnFit gl c) (W0 : S2.Base) (hG : GlobB (enO gl) W0) (j : Nat) (hj : j < c.hn) (w1 : S2.Base) (s1 : S2.St) (hI : I1 gl c W0 j w1 s1) : CX Try.prog 48 0 0 w1 s1 coK1 fun x w2 s2 => match x with
   | none => I1 gl c W0 (j + 1) w2 s2
   | some y => (some y : X) = some (some 0) /\ I1 gl c W0 c.hn w2 s2 := by
 obtain ⟨hw, hF, e1, rfl, hl, hd⟩ := hI
 have hG1 := glob_at hG (enO_bt gl) hw
 have hn := hf.hn
 rw [coK1_eq]
 refine CX.then (co_t gl c w1 hG1 e1 (elR gl c) j) (CX.then (co_go gl c w1 hG1 e1 (elR gl c) j hj) ?_)
 refine CX.seq (R1 := fun x w2 s2 => x = none /\ w2.toWorld = w1.toWorld /\ FLe w1.F w2.F /\ ∃ u, FRow w2.F u (crE gl (slG gl (.slice c.ha c.hn c.hc) 1 0 j) (slN gl (.slice c.ha c.hn c.hc) 1 0 j)) /\ s2 = coA c (setE e1 j (putL (e1 j) 0 [u])) (elR gl c) j) (CX.block (CX.then (co_4 gl c w1 hG1 e1 (elR gl c) j hj hn hf.h.1) ((co5_cx gl c e1 (elR gl c) j hj hn _ _ _ (hf.hv j hj) w1 hG1).mono fun x w2 s2 h => ?_))) (fun w2 s2 h => ?_) (fun y w2 s2 h => by cases h.1)
 . obtain ⟨rfl, h⟩ := h
   exact ⟨rfl, h⟩
 . obtain ⟨_, q1, q2, u, q3, rfl⟩ := h
   refine CX.of (E := enO gl) (co_inc gl c w2 (glob_at hG1 (enO_bt gl) q1) _ (elR gl c) j (by omega)) ⟨q1.trans hw, hF.trans q2, _, rfl, fun i => ?_, fun i hi => ?_⟩
   . by_cases h : i = j
     . subst h; rw [setE_at, put_one (hl i)]; rfl
     . rw [setE_ne _ _ _ _ h]; exact hl i
   . by_cases h : i = j
     . subst h; exact ⟨u, by rw [setE_at, put_one (hl i)], q3⟩
     . obtain ⟨u2, k1, k2⟩ := hd i (by omega)
       exact ⟨u2, by rw [setE_ne _ _ _ _ h]; exact k1, k2.mono q2⟩
theorem co_last {gl : Gl} {c : Cn} (hf : CnFit gl c) (W0 : S2.Base) (hG : GlobB (enO gl) W0) (w1 : S2.Base) (s1 : S2.St) (hI : I1 gl c W0 c.hn w1 s1) : CX Try.prog 48 0 0 w1 s1 coK1 fun x w2 s2 => x ≠ none /\ (x = some (some 0) /\ I1 gl c W0 c.hn w2 s2) := by
 obtain ⟨hw, hF, e1, rfl, hl, hd⟩ := hI
 have hG1 := glob_at hG (enO_bt gl) hw
 rw [coK1_eq]
 exact CX.then (co_t gl c w1 hG1 e1 (elR gl c) c.hn) (CX.leave (co_done gl c w1 hG1 e1 (elR gl c) c.hn (by omega)) ⟨(fun h => by cases h), rfl, hw, hF, e1, rfl, hl, hd⟩)
theorem cd_round {gl : Gl} {c : Cn} (hf : CnFit gl c) (W0 : S2.Base) (hG : GlobB (enO gl) W0) (j : Nat) (hj : j < c.rn) (w1 : S2.Base) (s1 : S2.St) (hI : I2 gl c W0 j w1 s1) : CX Try.prog 48 0 0 w1 s1 coK2 fun x w2 s2 => match x with
   | none => I2 gl c W0 (j + 1) w2 s2
   | some y => (some y : X) = some (some 2) /\ I2 gl c W0 c.rn w2 s2 := by
 obtain ⟨hw, hF, e1, e2, rfl, hH, hd, he⟩ := hI
 have hG1 := glob_at hG (enO_bt gl) hw
 have hn := hf.rn
 rw [coK2_eq]
 refine CX.then (cd_t gl c w1 hG1 e1 e2 j) (CX.then (cd_go gl c w1 hG1 e1 e2 j hj) ?_)
 refine CX.seq (R1 := fun x w2 s2 => x = none /\ w2.toWorld = w1.toWorld /\ FLe w1.F w2.F /\ ∃ u, FRow w2.F u (cfE gl (slG gl (.slice c.ra c.rn c.rc) 2 1 j) (slN gl (.slice c.ra c.rn c.rc) 2 1 j)) /\ s2 = coD c e1 (setE e2 j (putL (e2 j) 1 [u])) j) (CX.block (CX.then (cd_9 gl c w1 hG1 e1 e2 j hj hn hf.r.1) ((co10_cx gl c e1 e2 j hj hn _ _ _ _ (hf.rv j hj) w1 hG1).mono fun x w2 s2 h => ?_))) (fun w2 s2 h => ?_) (fun y w2 s2 h => by cases h.1)
 . obtain ⟨rfl, h⟩ := h
   exact ⟨rfl, h⟩
 . obtain ⟨_, q1, q2, u, q3, rfl⟩ := h
   refine CX.of (E := enO gl) (cd_inc gl c w2 (glob_at hG1 (enO_bt gl) q1) e1 _ j (by omega)) ⟨q1.trans hw, hF.trans q2, e1, _, rfl, fun i hi => ?_, fun i hi => ?_, fun i hi => ?_⟩
   . obtain ⟨u2, k1, k2⟩ := hH i hi
     exact ⟨u2, k1, k2.mono q2⟩
   . by_cases h : i = j
     . subst h
       exact ⟨u, by rw [setE_at, he i (Nat.le_refl _)]; rfl, q3⟩
     . obtain ⟨u2, k1, k2⟩ := hd i (by omega)
       exact ⟨u2, by rw [setE_ne _ _ _ _ h]; exact k1, k2.mono q2⟩
   . rw [setE_ne _ _ _ _ (by omega)]
     exact he i (by omega)
theorem cd_last {gl : Gl} {c : Cn} (hf : CnFit gl c) (W0 : S2.Base) (hG : GlobB (enO gl) W0) (w1 : S2.Base) (s1 : S2.St) (hI : I2 gl c W0 c.rn w1 s1) : CX Try.prog 48 0 0 w1 s1 coK2 fun x w2 s2 => x ≠ none /\ (x = some (some 2) /\ I2 gl c W0 c.rn w2 s2) := by
 obtain ⟨hw, hF, e1, e2, rfl, hH, hd, he⟩ := hI
 have hG1 := glob_at hG (enO_bt gl) hw
 rw [coK2_eq]
 exact CX.then (cd_t gl c w1 hG1 e1 e2 c.rn) (CX.leave (cd_done gl c w1 hG1 e1 e2 c.rn (by omega)) ⟨(fun h => by cases h), rfl, hw, hF, e1, e2, rfl, hH, hd, he⟩)
theorem co_body {gl : Gl} {c : Cn} (hf : CnFit gl c) (W0 : S2.Base) (hG : GlobB (enO gl) W0) : CX Try.prog 48 0 0 W0 (coI c) coB fun x w1 s1 => x = some none /\ w1.toWorld = W0.toWorld /\ FLe W0.F w1.F /\ ∃ e1 e2, s1 = coZ c e1 e2 /\ doneH gl c w1.F e1 c.hn /\ doneR gl c w1.F e2 c.rn := by
 rw [coB_eq]
 refine CX.then (co_r0 gl c W0 hG) (CX.then (co_r1 gl c W0 hG hf.h hf.r) ?_)
 refine CX.seq (R1 := fun x w1 s1 => x = none /\ I1 gl c W0 c.hn w1 s1) (CX.then (co_r2 gl c W0 hG hf.h.1) (CX.block (CX.mono (R := fun x w1 s1 => x = some (some 0) /\ I1 gl c W0 c.hn w1 s1) (CX.loop (I1 gl c W0) c.hn (fun j hj w1 s1 hI => co_round hf W0 hG j hj w1 s1 hI) (fun w1 s1 hI => co_last hf W0 hG w1 s1 hI) ⟨rfl, .refl _, elH gl c, rfl, fun i => rfl, fun i hi => absurd hi (Nat.not_lt_zero _)⟩) fun x w1 s1 h => ?_))) (fun w1 s1 h => ?_) (fun y w1 s1 h => by cases h.1)
 . obtain ⟨rfl, h⟩ := h
   exact ⟨rfl, h⟩
 obtain ⟨_, hw, hF, e1, rfl, hl, hd⟩ := h
 have hG1 := glob_at hG (enO_bt gl) hw
 refine CX.seq (R1 := fun x w2 s2 => x = none /\ I2 gl c W0 c.rn w2 s2) (CX.then (co_r7 gl c w1 hG1 e1 (elR gl c) c.hn hf.r.1) (CX.block (CX.mono (R := fun x w2 s2 => x = some (some 2) /\ I2 gl c W0 c.rn w2 s2) (CX.loop (I2 gl c W0) c.rn (fun j hj w1 s1 hI => cd_round hf W0 hG j hj w1 s1 hI) (fun w1 s1 hI => cd_last hf W0 hG w1 s1 hI) ⟨hw, hF, e1, elR gl c, rfl, hd, (fun i hi => absurd hi (Nat.not_lt_zero _)), fun i hi => rfl⟩) fun x w1 s1 h => ?_))) (fun w2 s2 h => ?_) (fun y w1 s1 h => by cases h.1)
 . obtain ⟨rfl, h⟩ := h
   exact ⟨rfl, h⟩
 obtain ⟨_, kw, kF, f1, f2, rfl, kH, kd, _⟩ := h
 have hG2 := glob_at hG (enO_bt gl) kw
 exact CX.then (co_r12 gl c w2 hG2 f1 f2 c.rn) (CX.of (E := enO gl) (co_ret gl c w2 hG2 f1 f2) ⟨rfl, kw, kF, f1, f2, rfl, kH, kd⟩)
theorem clone_calls {w : World} {c : Cn} (hc : CnOk (frz w) c) (sc : CnSm (frz w) c) (hf : CnFit (frz w) c) : Calls Try.prog 16 #[cnV c] w fun e w2 => ∃ d, e = .returned (cnV d) /\ Below w.heap.size w w2 /\ CnOk (frz w2) d /\ CnSm (frz w2) d /\ hartsT (frz w2) d = hartsT (frz w) c /\ rowsT (frz w2) d = rowsT (frz w) c := by
 have hG : GlobB (enO (frz w)) (base0 w) := .of (frz_ok w)
 refine CX.calls (E := enO (frz w)) (fn := (Try.prog.funcs[(16 : Nat)]?).getD default) (by kernel_rfl) (c := coB) (by kernel_rfl) rfl (args := [.inl ([true, true], cnV c)]) (own := ⟨[], []⟩) (w0 := base0 w) (co_body hf (base0 w) hG) ?_ (vs := [cnV c]) (ν := ⟨fun _ => 0, fun _ => undef⟩) ⟨rfl, trivial⟩ (WR.void w _)
 intro x w1 s1 h
 obtain ⟨rfl, hw, hF, e1, e2, rfl, hH, hR⟩ := h
 refine ⟨(fun i h => by cases h), .st [.l 0, .l 1], by kernel_rfl, fun ν1 v w' ha hv hw' => ?_⟩
 obtain ⟨F1, hF1, hw2, hr1⟩ := hw'.seal (k := 0) (e := chL c.hn e1 true) rfl rfl rfl
 obtain ⟨F2, hF2, hw3, hr2⟩ := hw2.seal (k := 1) (e := cwL c.rn e2 true) rfl rfl rfl
 obtain ⟨a, cap, hv1⟩ := outE_one hr1
 obtain ⟨b, cap2, hv2⟩ := outE_one hr2
 have hv1 : ν1.v 0 = .slice a c.hn cap := hv1
 have hv2 : ν1.v 1 = .slice b c.rn cap2 := hv2
 have hv : v = .agg #[ν1.v 0, ν1.v 1] := hv
 have hF2 : FLe F1 F2 := hF2
 have hF1 : FLe w1.F F1 := hF1
 have n1 : (hartsT (frz w) c).length = c.hn := by simp [hartsT]
 have n2 : (rowsT (frz w) c).length = c.rn := by simp [rowsT]
 have hx : xhRow F2 (.slice a c.hn cap) (hartsT (frz w) c) := by
   rw [hv1] at hr1
   refine ⟨e1, frow_as (hr1.mono hF2) rfl n1 fun j hj => rfl, fun i hi => ?_⟩
   rw [n1] at hi
   obtain ⟨u, k1, k2⟩ := hH i hi
   refine ⟨u, k1, ?_⟩
   have e : ((hartsT (frz w) c)[i]?).getD [] = recsT (frz w) (c.hv (frz w) i) := by simp [hartsT, hi]
   rw [e]
   refine frow_as (k2.mono (hF1.trans hF2)) rfl (by show (recsT (frz w) (c.hv (frz w) i)).length = lenV (c.hv (frz w) i); simp [recsT]) fun j hj => ?_
   have hj : j < lenV (c.hv (frz w) i) := hj
   show rcC (((recsT (frz w) (c.hv (frz w) i))[j]?).getD _) = rcC (rcG (frz w) (c.hv (frz w) i) j)
   simp [recsT, hj]
 have hy : xrRow F2 (.slice b c.rn cap2) (rowsT (frz w) c) := by
   rw [hv2] at hr2
   refine ⟨e2, frow_as hr2 rfl n2 fun j hj => rfl, fun i hi => ?_⟩
   rw [n2] at hi
   obtain ⟨u, k1, k2⟩ := hR i hi
   have e : ((rowsT (frz w) c)[i]?).getD (0, []) = (raG (frz w) c.r i, stosT (frz w) (c.rv (frz w) i)) := by simp [rowsT, hi]
   rw [e]
   refine ⟨u, k1, ?_⟩
   refine frow_as (k2.mono (hF1.trans hF2)) rfl (by show (stosT (frz w) (c.rv (frz w) i)).length = lenV (c.rv (frz w) i); simp [stosT]) fun j hj => ?_
   have hj : j < lenV (c.rv (frz w) i) := hj
   show rfC (((stosT (frz w) (c.rv (frz w) i))[j]?).getD _) = rfC (rfG (frz w) (c.rv (frz w) i) j)
   simp [stosT, hj]
 obtain ⟨m1, m2, m3⟩ := made_ok hw3.fr.here (c := ⟨a, c.hn, cap, b, c.rn, cap2⟩) hx hy
 have hbl := hw'.below
 rw [hw] at hbl
 refine ⟨⟨a, c.hn, cap, b, c.rn, cap2⟩, by rw [hv, hv1, hv2]; rfl, hbl, m1, (alike_of m2.symm m3.symm).sm sc, m2, m3⟩
end Go.Proofs.Ytmaffamhjmlonaa
