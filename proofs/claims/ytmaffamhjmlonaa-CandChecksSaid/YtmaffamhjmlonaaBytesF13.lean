/- Layer 13: the reference: Bytes, whole. -/
import Derived.Test.YtmaffamhjmlonaaBytes13
set_option linter.unusedVariables false
set_option linter.unusedSimpArgs false
namespace Go.Proofs.Ytmaffamhjmlonaa
open Go.RowKit Sim S2
def obL (N : List Int) : Nat -> List Int
 | 0 => []
 | j + 1 => obL N j ++ vbL (zgN ((N[j]?).getD 0))
theorem vbL_len (u : Nat) (hu : u < 18446744073709551616) : 1 <= (vbL u).length /\ (vbL u).length <= 11 := by
 have := gr_lt u hu
 have h : (vbL u).length = grN u + 1 := by
   show (grB u (grN u) ++ [_]).length = _
   rw [List.length_append, grB_len]; rfl
 omega
theorem zg_lt {n : Int} (h : inI n = true) : zgN n < 18446744073709551616 := by
 have h := of_decide_eq_true h
 have h1 : -9223372036854775808 <= n /\ n <= 9223372036854775807 := h
 unfold zgN; split <;> omega
theorem obL_len {N : List Int} (hI : ∀ j, j < N.length -> inI ((N[j]?).getD 0) = true) : ∀ j, j <= N.length -> (obL N j).length <= 11 * j
 | 0, _ => Nat.le_refl _
 | j + 1, hj => by
   have h1 := obL_len hI j (by omega)
   have h2 := vbL_len _ (zg_lt (hI j (by omega)))
   show (obL N j ++ vbL _).length <= _
   rw [List.length_append]; omega
def bP5 : List Nat := [0, 1, 0, 1, 1, 1, 1, 1, 1]
def bs5E (N : List Int) (e : LE) (i : Nat) : S2.St := { tmps := [(3, .c 0), (10, .c 1), (11, .inl ([true], .int .i64 i))], own := ⟨[], [inE N, e]⟩, lo := 0, llo := 0, mem := true, orc := [], obl := [] }
def bs5S (N B : List Int) (i : Nat) : S2.St := bs5E N (byE B) i
def bs5P : Pick := { ts := [3, 10, 11], bs := [], ls := [0, 1], opn := [11], nil := [(10, 5, 1, (byE []).el)] }
def bs5Q (l : List Nat) : Pick := { ts := [3, 10, 11], bs := [], ls := l, opn := [11] }
def apB (B M : List Int) : LE := ⟨5, 1, B.length + M.length, joinE B.length (byE B).el (byE M).el, true, false, true⟩
theorem appB (B M : List Int) : sameE (apB B M) (byE (B ++ M)) := ⟨rfl, rfl, by simp [apB, byE], rfl, rfl, joinB_app (fun i hi => by
   show [Value.int .u8 ((B[i]?).getD 0)] = [Value.int .u8 (((B ++ M)[i]?).getD 0)]
   rw [List.getElem?_append_left hi]) (fun i hi => by
   show [Value.int .u8 ((M[i]?).getD 0)] = [Value.int .u8 (((B ++ M)[B.length + i]?).getD 0)]
   rw [List.getElem?_append_right (by omega), Nat.add_sub_cancel_left])⟩
theorem bs5_one (gl : Gl) (N B : List Int) (i : Nat) (hi : i < N.length) (hN : N.length <= 1000000000) (hB : B.length <= 100000000000) (hI : inI ((N[i]?).getD 0) = true) (W : World) (hG : GlobOk gl W) : S2.Sem (enG gl) W 145 (bsK bP5) (bs5S N B i) none (bs5E N (apB B (vbL (zgN ((N[i]?).getD 0)))) (i + 1)) := by
 have hv := vbL_len _ (zg_lt hI)
 refine sem_iter (enG_ok gl) hG (p := bs5Q [0, 3]) (fuel := 1000) [true] [(pre (inI ((i : Int) + 1)), true), (pre (decide (B.length + (vbL (zgN ((N[i]?).getD 0))).length <= maxLen /\ (B.length + (vbL (zgN ((N[i]?).getD 0))).length) * 1 <= 140737488355328 /\ 0 < (vbL (zgN ((N[i]?).getD 0))).length)), true), (pre (inI ((N[i]?).getD 0)), true), (pre (decide (i < N.length)), true), (pre (idxB (i : Int) N.length), true), (decide ((i : Int) < (N.length : Int)), true)] (by kernel_rfl) (by kernel_rfl) ?_
 exact qA (ob_inI (by omega)) <| qA (ob_app (by omega) (by decide) (by omega)) <| qA hI <| qA (ob_lt hi) <| qA (ob_idx (by omega)) <| qA (ob_yes (by omega)) qZ
theorem bs5_step (gl : Gl) (N B : List Int) (i : Nat) (hi : i < N.length) (hN : N.length <= 1000000000) (hB : B.length <= 100000000000) (hI : inI ((N[i]?).getD 0) = true) (W : World) (hG : GlobOk gl W) : S2.Sem (enG gl) W 145 (bsK bP5) (bs5S N B i) none (bs5S N (B ++ vbL (zgN ((N[i]?).getD 0))) (i + 1)) :=
 (bs5_one gl N B i hi hN hB hI W hG).same rfl rfl ⟨.refl _, appB _ _, trivial⟩ rfl
theorem bs5_end (gl : Gl) (N B : List Int) (W : World) (hG : GlobOk gl W) : S2.Sem (enG gl) W 145 (bsK bP5) (bs5S N B N.length) (some (some 8)) (bs5S N B N.length) := by
 refine sem_iter (enG_ok gl) hG (p := bs5Q [0, 1]) (fuel := 1000) [false] [(decide ((N.length : Int) < (N.length : Int)), false)] (by kernel_rfl) (by kernel_rfl) ?_
 exact qA (ob_no (by omega)) qZ
theorem bs5_all (gl : Gl) (N : List Int) (hN : N.length <= 1000000000) (hI : ∀ j, j < N.length -> inI ((N[j]?).getD 0) = true) (W : World) (hG : GlobOk gl W) : S2.Sem (enG gl) W 145 (.loop (bsK bP5)) (bs5S N [] 0) (some (some 8)) (bs5S N (obL N N.length) N.length) :=
 sem_loop (E := enG gl) (w0 := base0 W) (nb := 0) (nl := 0) (n := 145) (c := bsK bP5) (x := some (some 8)) (s' := bs5S N (obL N N.length) N.length) (fun i => bs5S N (obL N i) i) N.length (by simp) (fun i hi => bs5_step gl N (obL N i) i hi hN (by have := obL_len hI i (by omega); omega) (hI i hi) W hG) (bs5_end gl N _ W hG)
noncomputable def harL (gl : Gl) (c : Cn) : List Int := [(c.hn : Int)] ++ hsL gl c c.hn
noncomputable def numL13 (gl : Gl) (c : Cn) : List Int := (harL gl c ++ [(c.rn : Int)]) ++ rsL gl c c.rn
noncomputable def bytL (gl : Gl) (c : Cn) : List Int := obL (numL13 gl c) (numL13 gl c).length
def lit1 (x : Int) : LE := ⟨3, 1, 1, tabE [[.int .i64 x]], true, false, true⟩
theorem lit1_same (x : Int) : sameE (lit1 x) (inE [x]) := ⟨rfl, rfl, rfl, rfl, rfl, fun i hi => by
 obtain rfl : i = 0 := Nat.lt_one_iff.mp hi
 rfl⟩
theorem harL_len {gl : Gl} {c : Cn} (sc : CnBd gl c) : (harL gl c).length <= 501000000 := by
 have h1 := hsL_len sc.2.2.1 c.hn (Nat.le_refl _)
 have h2 := sc.1
 unfold harL
 rw [List.length_append]
 show 1 + (hsL gl c c.hn).length <= _
 omega
theorem numL_len {gl : Gl} {c : Cn} (sc : CnBd gl c) : (numL13 gl c).length <= 800000000 := by
 have h1 := harL_len sc
 have h2 := rsL_len sc.2.2.2 c.rn (Nat.le_refl _)
 have h3 := sc.2.1
 unfold numL13
 rw [List.length_append, List.length_append]
 show (harL gl c).length + 1 + (rsL gl c c.rn).length <= _
 omega
theorem refBytes_ret {gl : Gl} (c : Cn) (hc : CnOk gl c) (sc : CnBd gl c) (hI : ∀ j, j < (numL13 gl c).length -> inI (((numL13 gl c)[j]?).getD 0) = true) (w : World) (hG : GlobOk gl w) (vals : List Value) (ha : ArgsOk w [.inl (cnV c)] vals) : LRet Try.prog 13 vals false [.inr (byE (bytL gl c))] w := by
 have hl := harL_len sc
 refine fn_ok (enG_ok gl) (fuel := 1000) (d := 30) (plan := [⟨bP1, bsQ 0 [4], some (some 0), bsS c (harL gl c) [iS 4 c.hn]⟩, ⟨bP3, bsQ 2 [8], some (some 4), bsS c (numL13 gl c) [iS 8 c.rn]⟩, ⟨bP5, bs5P, some (some 8), bs5S (numL13 gl c) (bytL gl c) (numL13 gl c).length⟩]) (orc := []) (fls := [[true, true]])
   (l := [(pre (decide ((harL gl c).length + 1 <= maxLen /\ ((harL gl c).length + 1) * 8 <= 140737488355328 /\ 0 < 1)), true), (pre (rowB gl c.r (rwE gl c.r)), true), (pre (rowB gl c.h (hsE gl c.h)), true)])
   (tr := [⟨.loop (bsK bP1), bsE c (lit1 (c.hn : Int)) [iS 4 0], some (some 0), bsS c (harL gl c) [iS 4 c.hn]⟩, ⟨.loop (bsK bP3), bsE c (apI (harL gl c) [(c.rn : Int)]) [iS 8 0], some (some 4), bsS c (numL13 gl c) [iS 8 c.rn]⟩, ⟨.loop (bsK bP5), bs5S (numL13 gl c) [] 0, some (some 8), bs5S (numL13 gl c) (bytL gl c) (numL13 gl c).length⟩]) (by kernel_rfl) ?_ Try.func13 w vals hG ha fun t ht => ?_
 . exact qA (ob_app (by omega) (by decide) (by decide)) <| qA (rowB_ok.mpr hc.rw) <| qA (rowB_ok.mpr hc.hs) qZ
 . rcases List.mem_cons.mp ht with rfl | ht
   . exact (bs1_all gl c hc sc [(c.hn : Int)] (by show 1 <= 1000; omega) w hG).alike rfl rfl ⟨lit1_same _, trivial⟩ rfl
   . rcases List.mem_cons.mp ht with rfl | ht
     . exact (bs3_all gl c hc sc (harL gl c ++ [(c.rn : Int)]) (by rw [List.length_append]; show (harL gl c).length + 1 <= _; omega) w hG).alike rfl rfl ⟨appI _ _, trivial⟩ rfl
     . obtain rfl := List.mem_singleton.mp ht
       exact bs5_all gl (numL13 gl c) (by have := numL_len sc; omega) hI w hG
end Go.Proofs.Ytmaffamhjmlonaa
