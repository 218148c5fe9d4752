/- Layer 13: the laws' awake. -/
import Derived.Test.YtmaffamhjmlonaaBeh13
import Derived.Test.YtmaffamhjmlonaaOpen13
import Derived.Test.YtmaffamhjmlonaaPEnc13
import Derived.Test.YtmaffamhjmlonaaMade13
import Derived.Test.YtmaffamhjmlonaaLaw13D
set_option linter.unusedVariables false
set_option linter.unusedSimpArgs false
namespace Go.Proofs.Ytmaffamhjmlonaa
open Go Go.RowKit Sim S2
theorem piece_seal {E : S2.Env} (HC : CallOk E) {w1 : S2.Base} {n fuel : Nat} {ops : Array Oper} (hG : GlobB E w1) {l : List Oper} {p : Pick} (orc : List Bool) (ob : List (Bool × Bool)) {s s2 : S2.St} {e : LE} (hg : (goodB s && Nat.ble 0 s.own.b.length && Nat.ble 0 s.own.l.length && prefB 0 p.bs && prefB 0 p.ls) = true) (h : runOps E fuel n ops l p orc s = some (s2, ob)) (hh : ∀ p ∈ ob, p.1 = p.2) (hown : s2.own = ⟨[], [e]⟩) (hd : e.dead = false) (ho : e.own = true)
   {Q : Exit -> Act -> World -> Prop} {ν : Nu} {a : Act} {w : World} (ht : S2.TR n ν s a) (hw : S2.WR w1 ν s.own s.mem w) (hK : ∀ F' ν2 a2 w', FLe w1.F F' -> S2.TR n ν2 s2 a2 -> S2.WR (setF w1 F') ν2 ⟨[], []⟩ true w' -> FRow F' (ν2.v 0) e -> Q .normal a2 w') : wpList E.P ops Q l a w :=
 runOpsA (nb := 0) (nl := 0) HC hG orc ob hg h hh ht hw fun ν2 a2 w' ha ht2 hw2 => by
   rw [hown] at hw2
   obtain ⟨F', hF, hw3, hr⟩ := hw2.seal (k := 0) (e := e) rfl hd ho
   exact hK F' ν2 a2 w' hF ht2 (hw3.restrict (own := ⟨[], []⟩) (fun i b hi => by simp at hi) ⟨fun i hi => absurd hi (Nat.not_lt_zero _), fun i hi => absurd hi (Nat.not_lt_zero _)⟩ (Nat.zero_le _) (fun i hi => absurd hi (Nat.not_lt_zero _)) (fun i hi => absurd hi (Nat.not_lt_zero _))) hr
theorem frow_as {F : Nat -> Option Obj} {v : Value} {e e2 : LE} (h : FRow F v e) (h1 : e2.size = e.size) (h2 : e2.n = e.n) (h3 : ∀ j, j < e.n -> e2.el j = e.el j) : FRow F v e2 := by
 obtain ⟨⟨k1, k2⟩, a, cap, hv, hc, k3⟩ := h
 refine ⟨⟨by omega, fun j hj => by rw [h3 j (by omega), h1]; exact k2 j (by omega)⟩, a, cap, by rw [h2]; exact hv, by omega, fun hn => ?_⟩
 obtain ⟨g, cs, t, ha, hg, k4⟩ := k3 (by omega)
 exact ⟨g, cs, t, ha, hg, fun j hj => by rw [h3 j (by omega), h1]; exact k4 j (by omega)⟩
noncomputable def enA (gl : Gl) : S2.Env := { envk Try.prog gl true noT (pBeh gl) (lEnc gl) with lit := true }
theorem enA_ok (gl : Gl) : CallOk (enA gl) := envk_ok (nw := true) (.none _ _) pBeh_ok lEnc_ok
noncomputable def awB : Code := codeOf Try.prog 7
noncomputable def awC (p : List Nat) : Code := codeAt awB p
noncomputable def awR : Code := awC [0, 1, 1]
def awS (T : List (Nat × S2.SV)) (ls : List LE) : S2.St := { tmps := T, own := ⟨[], ls⟩, lo := 0, llo := 0, mem := true, orc := [], obl := [] }
def awS1 (E : List Int) (k : Int) : S2.St := awS [(1, .c 0), (2, .inl ([true], .int .i64 k))] [byE E]
def rc0 : Rc := ⟨0, 0, 0, 0, false, false⟩
def lA : LE := ⟨48, 6, 1, tabE [rcC rc0], true, false, true⟩
def lB (v : Value) : LE := ⟨40, 1, 1, tabE [[v]], true, false, true⟩
def lC : LE := ⟨46, 2, 1, tabE [rfC ⟨0, 0⟩], true, false, true⟩
def lD (v : Value) : LE := ⟨43, 2, 1, tabE [[.int .i64 0, v]], true, false, true⟩
def s15 : Nat × S2.SV := (15, .inl ([], .bool true))
theorem awA (gl : Gl) (E : List Int) (k : Int) : runOps (enA gl) 1000 28 (regO awR) ((regO awR).toList.take 10) { ts := [15, 17], bs := [], ls := [1] } [true, true] (awS1 E k) = some (awS [s15, (17, .c 0)] [lA], [((E.length : Int) == 2, true), (k == 0, true)]) := by kernel_rfl
theorem awBB (gl : Gl) (a : Option Addr) (n c : Nat) : runOps (enA gl) 1000 28 (regO awR) (((regO awR).toList.drop 10).take 1) { ts := [15, 18], bs := [], ls := [0] } [] (awS [s15, (17, .inl ([true], .slice a n c))] []) = some (awS [s15, (18, .c 0)] [lB (.slice a n c)], []) := by kernel_rfl
theorem awCC (gl : Gl) (a : Option Addr) (n c : Nat) : runOps (enA gl) 1000 28 (regO awR) (((regO awR).toList.drop 11).take 2) { ts := [15, 18, 20], bs := [], ls := [0] } [] (awS [s15, (18, .inl ([true], .slice a n c))] []) = some (awS [s15, (18, .inl ([true], .slice a n c)), (20, .c 0)] [lC], []) := by kernel_rfl
theorem awDD (gl : Gl) (a b : Option Addr) (n c m d : Nat) : runOps (enA gl) 1000 28 (regO awR) (((regO awR).toList.drop 13).take 2) { ts := [15, 18, 22], bs := [], ls := [0] } [] (awS [s15, (18, .inl ([true], .slice a n c)), (20, .inl ([true], .slice b m d))] []) = some (awS [s15, (18, .inl ([true], .slice a n c)), (22, .c 0)] [lD (.slice b m d)], []) := by kernel_rfl
theorem awEE (gl : Gl) (a b : Option Addr) (n c m d : Nat) : runOps (enA gl) 1000 28 (regO awR) ((regO awR).toList.drop 15) { ts := [0], bs := [], ls := [], opn := [0] } [] (awS [s15, (18, .inl ([true], .slice a n c)), (22, .inl ([true], .slice b m d))] []) = some (awS [(0, .inl ([true], .bool true))] [], [(pre (propB (CnOk gl ⟨a, n, c, b, m, d⟩ /\ 0 < m /\ raG gl (.slice b m d) 0 = 0 /\ 0 < lenV (slG gl (.slice b m d) 2 1 0) /\ rfG gl (slG gl (.slice b m d) 2 1 0) 0 = ⟨0, 0⟩)), true)]) := by kernel_rfl
theorem awB_eq : awB = .seq (awC [0]) (.seq (awC [0, 1]) (.seq (.region (regI awR) (regO awR) false) (awC [1, 1, 1]))) := by kernel_rfl
theorem awR_ops : (regO awR).toList = (regO awR).toList.take 10 ++ (((regO awR).toList.drop 10).take 1 ++ (((regO awR).toList.drop 11).take 2 ++ (((regO awR).toList.drop 13).take 2 ++ (regO awR).toList.drop 15))) := by kernel_rfl
def cnO : Cn := ⟨none, 0, 0, none, 0, 0⟩
theorem nil_rowA (gl : Gl) {e : LE} (h1 : 0 < e.size) (h2 : e.n = 0) : rowG gl (.slice none 0 0) e :=
 ⟨⟨h1, fun j hj => absurd hj (by omega)⟩, none, 0, by rw [h2], by omega, fun hn => absurd hn (by omega)⟩
theorem cnO_ok (gl : Gl) : CnOk gl cnO := ⟨nil_rowA gl Nat.one_pos rfl, nil_rowA gl (show 0 < 2 by decide) rfl, fun i hi => absurd hi (Nat.not_lt_zero _), fun i hi => absurd hi (Nat.not_lt_zero _)⟩
theorem cnO_sm (gl : Gl) : CnSm gl cnO := ⟨Nat.zero_le _, Nat.zero_le _, fun i hi => absurd hi (Nat.not_lt_zero _), fun i hi => absurd hi (Nat.not_lt_zero _)⟩
theorem cnO_chk (gl : Gl) : chkZ gl cnO = 0 := by rw [chkZ_eq]; rfl
theorem cnO_num (gl : Gl) : numL13 gl cnO = [0, 0] := rfl
theorem cnO_in (gl : Gl) : CnIn gl cnO := by
 unfold CnIn
 rw [cnO_num]
 intro j hj
 match j, hj with
 | 0, _ => rfl
 | 1, _ => rfl
theorem cnO_byt (gl : Gl) : encB gl cnO = [0, 0] := by
 unfold encB
 rw [if_pos (cnO_chk gl)]
 unfold bytL
 rw [cnO_num]
 rfl
theorem aw_r0 (w0 : S2.Base) (gl : Gl) (hG : GlobB (enA gl) w0) : SemA (enA gl) w0 0 0 28 (awC [0]) (awS [] []) none (awS [] []) :=
 semA_iter (enA_ok gl) hG (p := { ts := [], bs := [], ls := [] }) (fuel := 1000) [] [] (by kernel_rfl) (by kernel_rfl) qZ
theorem aw_r1 (w0 : S2.Base) (gl : Gl) (hG : GlobB (enA gl) w0) : SemA (enA gl) w0 0 0 28 (awC [0, 1]) (awS [] []) none (awS1 (encB gl cnO) (chkZ gl cnO)) :=
 semA_iter (enA_ok gl) hG (p := { ts := [1, 2], bs := [], ls := [0] }) (fuel := 1000) [] [(pre (propB (CnOk gl cnO /\ CnSm gl cnO /\ CnIn gl cnO)), true)] (by kernel_rfl) (by kernel_rfl) (qA (propB_ok.mpr ⟨cnO_ok gl, cnO_sm gl, cnO_in gl⟩) qZ)
theorem aw_r3 (w0 : S2.Base) (gl : Gl) (hG : GlobB (enA gl) w0) : SemA (enA gl) w0 0 0 28 (awC [1, 1, 1]) (awS [(0, .inl ([true], .bool true))] []) (some none) (awS [(0, .inl ([true], .bool true))] []) :=
 semA_iter (enA_ok gl) hG (p := { ts := [0], bs := [], ls := [], opn := [0] }) (fuel := 1000) [] [] (by kernel_rfl) (by kernel_rfl) qZ
theorem aw_r2 (w0 : S2.Base) (gl : Gl) (hG : GlobB (enA gl) w0) : CX Try.prog 28 0 0 w0 (awS1 (encB gl cnO) (chkZ gl cnO)) (.region (regI awR) (regO awR) false) fun x w1 s1 => x = none /\ Below w0.toWorld.heap.size w0.toWorld w1.toWorld /\ s1 = awS [(0, .inl ([true], .bool true))] [] := fun Q ν a w ht hw hQ => by
 refine wp_region_list ?_
 rw [awR_ops]
 refine wpList_app (piece_seal (enA_ok gl) hG [true, true] _ (by kernel_rfl) (awA gl (encB gl cnO) (chkZ gl cnO)) (qA (by rw [cnO_byt]; rfl) <| qA (by rw [cnO_chk]; rfl) qZ) rfl rfl rfl ht hw fun F1 ν1 a1 w1 hF1 ht1 hw1 hr1 => ?_)
 obtain ⟨x1, c1, hv1⟩ := outE_one hr1
 have hG1 : GlobB (enA gl) (setF w0 F1) := hG.setF rfl F1
 refine wpList_app (piece_seal (enA_ok gl) hG1 [] _ (by kernel_rfl) (awBB gl x1 1 c1) qZ rfl rfl rfl (ht1.rebase fun p hp u hu => ?_) hw1 fun F2 ν2 a2 w2 hF2 ht2 hw2 hr2 => ?_)
 . simp only [awS, List.mem_cons, List.not_mem_nil, or_false] at hp
   rcases hp with rfl | rfl
   . exact hu
   . have hu : u = ν1.v 0 := hu
     show u = _
     rw [hu, hv1]; rfl
 obtain ⟨x2, c2, hv2⟩ := outE_one hr2
 have hG2 : GlobB (enA gl) (setF (setF w0 F1) F2) := hG1.setF rfl F2
 refine wpList_app (piece_seal (enA_ok gl) hG2 [] _ (by kernel_rfl) (awCC gl x2 1 c2) qZ rfl rfl rfl (ht2.rebase fun p hp u hu => ?_) hw2 fun F3 ν3 a3 w3 hF3 ht3 hw3 hr3 => ?_)
 . simp only [awS, List.mem_cons, List.not_mem_nil, or_false] at hp
   rcases hp with rfl | rfl
   . exact hu
   . have hu : u = ν2.v 0 := hu
     show u = _
     rw [hu, hv2]; rfl
 obtain ⟨x3, c3, hv3⟩ := outE_one hr3
 have hG3 : GlobB (enA gl) (setF (setF (setF w0 F1) F2) F3) := hG2.setF rfl F3
 refine wpList_app (piece_seal (enA_ok gl) hG3 [] _ (by kernel_rfl) (awDD gl x2 x3 1 c2 1 c3) qZ rfl rfl rfl (ht3.rebase fun p hp u hu => ?_) hw3 fun F4 ν4 a4 w4 hF4 ht4 hw4 hr4 => ?_)
 . simp only [awS, List.mem_cons, List.not_mem_nil, or_false] at hp
   rcases hp with rfl | rfl | rfl
   . exact hu
   . exact hu
   . have hu : u = ν3.v 0 := hu
     show u = _
     rw [hu, hv3]; rfl
 obtain ⟨x4, c4, hv4⟩ := outE_one hr4
 have hx : xhRow F4 (.slice x2 1 c2) [[rc0]] := by
   have k1 : FRow F4 (.slice x1 1 c1) (coE [rc0]) := by
     have : ν1.v 0 = .slice x1 1 c1 := hv1
     rw [<- this]
     exact frow_as (hr1.mono (hF2.trans (hF3.trans hF4))) rfl rfl fun j hj => by
       obtain rfl : j = 0 := Nat.lt_one_iff.mp hj
       rfl
   have k2 : FRow F4 (.slice x2 1 c2) (lB (.slice x1 1 c1)) := by
     have : ν2.v 0 = .slice x2 1 c2 := hv2
     rw [<- this]
     exact hr2.mono (hF3.trans hF4)
   refine ⟨fun _ => [.slice x1 1 c1], frow_as k2 rfl rfl fun j hj => by
       obtain rfl : j = 0 := Nat.lt_one_iff.mp hj
       rfl, fun i hi => ?_⟩
   obtain rfl : i = 0 := Nat.lt_one_iff.mp hi
   exact ⟨_, rfl, k1⟩
 have hy : xrRow F4 (.slice x4 1 c4) [(0, [⟨0, 0⟩])] := by
   have k1 : FRow F4 (.slice x3 1 c3) (roE [⟨0, 0⟩]) := by
     have : ν3.v 0 = .slice x3 1 c3 := hv3
     rw [<- this]
     exact frow_as (hr3.mono hF4) rfl rfl fun j hj => by
       obtain rfl : j = 0 := Nat.lt_one_iff.mp hj
       rfl
   have k2 : FRow F4 (.slice x4 1 c4) (lD (.slice x3 1 c3)) := by
     have : ν4.v 0 = .slice x4 1 c4 := hv4
     rw [<- this]
     exact hr4
   refine ⟨fun _ => [.int .i64 0, .slice x3 1 c3], frow_as k2 rfl rfl fun j hj => by
       obtain rfl : j = 0 := Nat.lt_one_iff.mp hj
       rfl, fun i hi => ?_⟩
   obtain rfl : i = 0 := Nat.lt_one_iff.mp hi
   exact ⟨_, rfl, k1⟩
 obtain ⟨m1, m2, m3⟩ := made_ok (w := w4) hw4.fr.here (c := ⟨x2, 1, c2, x4, 1, c4⟩) hx hy
 have hl := alike_of (gl := frz w4) (c := ⟨x2, 1, c2, x4, 1, c4⟩) (gl' := frz w4) (d := ⟨x2, 1, c2, x4, 1, c4⟩) rfl rfl
 have e1 : raG (frz w4) (.slice x4 1 c4) 0 = 0 := by
   have := congrArg (fun l => (l.map Prod.fst)) m3
   simpa [rowsT, Cn.r] using this
 have e2 : stosT (frz w4) (slG (frz w4) (.slice x4 1 c4) 2 1 0) = [⟨0, 0⟩] := by
   have := congrArg (fun l => (l.map Prod.snd)) m3
   simpa [rowsT, Cn.rv, Cn.r] using this
 have e3 : lenV (slG (frz w4) (.slice x4 1 c4) 2 1 0) = 1 := by
   have := congrArg List.length e2
   simpa [stosT] using this
 have e4 : rfG (frz w4) (slG (frz w4) (.slice x4 1 c4) 2 1 0) 0 = ⟨0, 0⟩ := by
   unfold stosT at e2
   rw [e3] at e2
   simpa using e2
 have hb : Below w0.toWorld.heap.size w0.toWorld w4 := hw4.below
 refine runOpsA (nb := 0) (nl := 0) (enA_ok (frz w4)) (w1 := base0 w4) (.of (frz_ok w4)) [] _ (by kernel_rfl) (awEE (frz w4) x2 x4 1 c2 1 c4) (qA (propB_ok.mpr ⟨m1, Nat.one_pos, e1, by rw [e3]; exact Nat.one_pos, e4⟩) qZ) (ht4.rebase fun p hp u hu => ?_) (WR.void w4 ν4) fun ν5 a5 w5 ha5 ht5 hw5 => hQ none (base0 w4) _ ν5 a5 w5 ⟨rfl, hb, rfl⟩ ⟨fun i hi => absurd hi (Nat.not_lt_zero _), fun i hi => absurd hi (Nat.not_lt_zero _)⟩ ht5 hw5
 simp only [awS, List.mem_cons, List.not_mem_nil, or_false] at hp
 rcases hp with rfl | rfl | rfl
 . exact hu
 . exact hu
 . have hu : u = ν4.v 0 := hu
   show u = _
   rw [hu, hv4]; rfl
theorem awake_ret (w : World) : Ret Try.prog 7 #[] (.bool true) w := by
 have hG : GlobB (enA (frz w)) (base0 w) := .of (frz_ok w)
 have hb : CX Try.prog 28 0 0 (base0 w) (awS [] []) awB fun x w1 s1 => x = some none /\ Below w.heap.size w w1.toWorld /\ s1 = awS [(0, .inl ([true], .bool true))] [] := by
   rw [awB_eq]
   refine CX.then (aw_r0 (base0 w) (frz w) hG) (CX.then (aw_r1 (base0 w) (frz w) hG) (CX.seq (aw_r2 (base0 w) (frz w) hG) (fun w1 s1 h => ?_) (fun y w1 s1 h => by cases h.1)))
   obtain ⟨_, h1, rfl⟩ := h
   exact CX.of (E := enA (fun _ => none)) (aw_r3 w1 (fun _ => none) ⟨GlobOk.none _, fun h => by cases h⟩) ⟨rfl, h1, rfl⟩
 let ν : Nu := ⟨fun _ => 0, fun k => undef⟩
 refine CX.calls (E := enA (frz w)) (fn := (Try.prog.funcs[(7 : Nat)]?).getD default) (by kernel_rfl) (c := awB) (by kernel_rfl) rfl (args := []) (own := ⟨[], []⟩) (w0 := base0 w) hb ?_ (vs := []) (ν := ν) trivial (WR.void w ν)
 intro x w1 s1 h
 obtain ⟨rfl, h1, rfl⟩ := h
 refine ⟨(fun i h => by cases h), .inl ([true], .bool true), by kernel_rfl, fun ν1 v w' ha hv hw' => ⟨by rw [show v = .bool true from hv], h1.trans (hw'.below.mono h1.size)⟩⟩
end Go.Proofs.Ytmaffamhjmlonaa
