/- Layer 13: package cand: Encode. -/
import Derived.Test.YtmaffamhjmlonaaK07
import Derived.Test.YtmaffamhjmlonaaPWri13
import Derived.Test.YtmaffamhjmlonaaPChk13
set_option linter.unusedVariables false
set_option linter.unusedSimpArgs false
namespace Go.Proofs.Ytmaffamhjmlonaa
open Go.RowKit Sim S2
theorem semF_args {P : Program} {gl : Gl} {F : FuncId} {args args' : List S2.SV} {own own' : Mem} {x : S2.SV} (h : SemF P gl F args own x own') (he : ∀ ν vs, IsL ν args' vs -> IsL ν args vs) : SemF P gl F args' own x own' := fun w0 hG ν w vs hvs hw => h w0 hG ν w vs (he ν vs hvs) hw
def bysL (e : LE) : List Int := (List.range e.n).map fun j => S2.intOf (e.el j)
theorem bysL_len (e : LE) : (bysL e).length = e.n := by unfold bysL; simp
theorem bysL_get {e : LE} {j : Nat} (h : j < e.n) : ((bysL e)[j]?).getD 0 = S2.intOf (e.el j) := by unfold bysL; simp [h]
def isByR (e : LE) : Prop := e.elT = 5 /\ e.size = 1 /\ e.own = true /\ e.dead = false /\ e.n <= 600000000000 /\ ∀ p, p < e.n -> e.el p = [.int .u8 (S2.intOf (e.el p))]
def isIntR (e : LE) : Prop := e.elT = 3 /\ e.size = 1 /\ e.own = true /\ e.dead = false /\ e.n <= 1000000 /\ ∀ j, j < e.n -> e.el j = [.int .i64 (S2.intOf (e.el j))] /\ inI (S2.intOf (e.el j)) = true
theorem isByR_same {e : LE} (h : isByR e) : sameE e (byE (bysL e)) := ⟨h.1, h.2.1, by show e.n = (bysL e).length; rw [bysL_len], h.2.2.1, h.2.2.2.1, fun i hi => by
 rw [h.2.2.2.2.2 i hi]
 show _ = [Value.int .u8 (((bysL e)[i]?).getD 0)]
 rw [bysL_get hi]⟩
theorem isIntR_same {e : LE} (h : isIntR e) : sameE e (inE (bysL e)) := ⟨h.1, h.2.1, by show e.n = (bysL e).length; rw [bysL_len], h.2.2.1, h.2.2.2.1, fun i hi => by
 rw [(h.2.2.2.2.2 i hi).1]
 show _ = [Value.int .i64 (((bysL e)[i]?).getD 0)]
 rw [bysL_get hi]⟩
theorem isIntR_in {e : LE} (h : isIntR e) : ∀ x ∈ bysL e, inI x = true := fun x hx => by
 obtain ⟨j, hj, rfl⟩ := List.mem_map.mp hx
 exact (h.2.2.2.2.2 j (List.mem_range.mp hj)).2
theorem bysL_byE (B : List Int) : bysL (byE B) = B := by
 refine List.ext_getElem (by rw [bysL_len]; rfl) fun i h1 h2 => ?_
 have := bysL_get (e := byE B) (j := i) h2
 rw [List.getElem?_eq_getElem h1] at this
 rw [show (bysL (byE B))[i] = S2.intOf ((byE B).el i) from this]
 show ((B[i]?).getD 0) = _
 rw [List.getElem?_eq_getElem h2]; rfl
theorem isByR_byE {B : List Int} (h : B.length <= 600000000000) : isByR (byE B) := ⟨rfl, rfl, rfl, rfl, h, fun p hp => rfl⟩
noncomputable def eWri : ETab := erow 20 fun args own => match args, own with
 | [.c 0, .c 1], ⟨[], [eb, e]⟩ => some { x := .c 2, sl := [(0, killE eb)], al := [byE (bysL eb ++ vbs (bysL e))], ok := pre (propB (isByR eb /\ isIntR e)) }
 | [.inl (fl, .slice none 0 0), .c 0], ⟨[], [e]⟩ => some { x := .c 1, al := [byE (vbs (bysL e))], ok := pre (propB (isIntR e)) }
 | _, _ => none
theorem eWri_ok {gl : Gl} : EffOk Try.prog gl eWri := .row fun args own r h hr => by
 split at h
 . rename_i eb e
   simp only [qS] at h
   subst h
   obtain ⟨h1, h2⟩ := propB_ok.mp hr
   have s1 := isByR_same h1
   have s2 := isIntR_same h2
   refine SemF.anyGlob (((wr_sem (bysL eb) (bysL e) (by rw [bysL_len]; exact h2.2.2.2.2.1) (isIntR_in h2) (by rw [bysL_len]; exact h1.2.2.2.2.1)).from (own2 := ⟨[], [eb, e]⟩) rfl ⟨s1, s2, trivial⟩).same rfl ?_)
   exact ⟨⟨s1.1.symm, s1.2.1.symm, s1.2.2.1.symm, s1.2.2.2.1.symm, rfl, fun i hi => (s1.2.2.2.2.2 i (by rw [s1.2.2.1]; exact hi)).symm⟩, (sameL_flip (l := [e]) (l' := [inE (bysL e)]) ⟨s2, trivial⟩).1, .refl _, trivial⟩
 . rename_i fl e
   simp only [qS] at h
   subst h
   have h2 := propB_ok.mp hr
   have s2 := isIntR_same h2
   refine SemF.anyGlob ((((semF_args (wn_sem (bysL e) (by rw [bysL_len]; exact h2.2.2.2.2.1) (isIntR_in h2)) fun ν vs h => ?_)).from (own2 := ⟨[], [e]⟩) rfl ⟨s2, trivial⟩).same rfl ?_)
   . match vs, h with
     | [x, y], h => exact h
   . exact ⟨(sameL_flip (l := [e]) (l' := [inE (bysL e)]) ⟨s2, trivial⟩).1, .refl _, trivial⟩
 . cases h
def cdI (r : Rc) : Int := bif r.wt then 1 else bif r.fl then 2 else 0
def rcV (r : Rc) : Value := .agg #[.int .i64 r.pc, .int .i64 r.val, .int .i64 r.sh, .int .i64 r.sa, .bool r.wt, .bool r.fl]
theorem codeOf_ret (r : Rc) (w : World) : Ret Try.prog 21 #[rcV r] (.int .i64 (cdI r)) w := by
 refine LRet.plain (?_ : LRet Try.prog 21 [rcV r] false [.inl (.int .i64 _)] w)
 have ha : ArgsOk w [.inl (rcV r)] [rcV r] := ⟨rfl, trivial⟩
 unfold cdI
 cases h1 : r.wt
 . cases h2 : r.fl
   . exact fn_ok enN_ok (fuel := 1000) (d := 30) (plan := []) (orc := [false, false]) (fls := [[true, true, true, true, true, true]]) (l := [(r.fl, false), (r.wt, false)]) (tr := []) (by kernel_rfl) (qA h2 <| qA h1 qZ) Try.func21 w _ (GlobOk.none w) ha fun t ht => by cases ht
   . exact fn_ok enN_ok (fuel := 1000) (d := 30) (plan := []) (orc := [false, true]) (fls := [[true, true, true, true, true, true]]) (l := [(r.fl, true), (r.wt, false)]) (tr := []) (by kernel_rfl) (qA h2 <| qA h1 qZ) Try.func21 w _ (GlobOk.none w) ha fun t ht => by cases ht
 . exact fn_ok enN_ok (fuel := 1000) (d := 30) (plan := []) (orc := [true]) (fls := [[true, true, true, true, true, true]]) (l := [(r.wt, true)]) (tr := []) (by kernel_rfl) (qA h1 qZ) Try.func21 w _ (GlobOk.none w) ha fun t ht => by cases ht
theorem cdZ_ex : ∃ f : Bool -> Bool -> Int, ∀ a b, f a b = (bif a then 1 else bif b then 2 else 0) := ⟨_, fun _ _ => rfl⟩
noncomputable def cdZ : Bool -> Bool -> Int := Classical.choose cdZ_ex
theorem cdZ_eq (a b : Bool) : cdZ a b = (bif a then 1 else bif b then 2 else 0) := Classical.choose_spec cdZ_ex a b
noncomputable def pCode : PTab := prowD 21 fun l => match l with
 | [.agg ⟨[.int .i64 a, .int .i64 b, .int .i64 c, .int .i64 d, .bool e, .bool f]⟩] => some (.int .i64 (cdZ e f), true)
 | _ => none
theorem pCode_ok {gl : Gl} : PTabOk Try.prog gl pCode := .rowD fun args v h w hG => by
 split at h
 . rename_i a b c d e f
   simp only [qS, qP] at h
   obtain ⟨rfl, hp⟩ := h
   rw [cdZ_eq]
   exact codeOf_ret ⟨a, b, c, d, e, f⟩ w
 . cases h
noncomputable def enE13 (gl : Gl) : S2.Env := { enve Try.prog gl true noT (orP (pCk gl) pCode) noL eWri with lit := true, rowT := rowsC gl }
theorem enE13_ok (gl : Gl) : CallOk (enE13 gl) := enve_ok (nw := true) (.none _ _) (pCk_ok.or pCode_ok) (.none _ _) eWri_ok
def eP1 : List Nat := [0, 1, 0, 1, 1, 1]
def eI2 : List Nat := [0, 1, 1, 1, 0, 0, 1, 1]
def eP3 : List Nat := [0, 1, 0, 1, 1, 1, 1, 1]
noncomputable def ecK (p : List Nat) : Code := codeAt (codeOf Try.prog 9) (0 :: p)
def ecS (c : Cn) (N : List Int) (l : List (Nat × S2.SV)) : S2.St := { tmps := [(1, .inr (0, 0, none)), (5, .c 0)] ++ l, own := ⟨[cnB c], [byE (vbs N)]⟩, lo := 0, llo := 0, mem := true, orc := [], obl := [] }
def ecX (c : Cn) (e : LE) (l : List (Nat × S2.SV)) : S2.St := { tmps := [(1, .inr (0, 0, none)), (5, .c 0)] ++ l, own := ⟨[cnB c], [e]⟩, lo := 0, llo := 0, mem := true, orc := [], obl := [] }
def ecL1 (c : Cn) (i : Nat) : List (Nat × S2.SV) := [(25, .inl ([true], .slice c.ha c.hn c.hc)), (26, .inl ([true], .int .i64 c.hn)), (27, .inl ([true], .int .i64 i))]
noncomputable def ecL2 (gl : Gl) (c : Cn) (i k : Nat) : List (Nat × S2.SV) := ecL1 c i ++ [(36, .inl ([true], slG gl (.slice c.ha c.hn c.hc) 1 0 i)), (37, .inl ([true], .int .i64 (lenV (c.hv gl i) : Nat))), (38, .inl ([true], .int .i64 k))]
noncomputable def encB (gl : Gl) (c : Cn) : List Int := if chkZ gl c = 0 then bytL gl c else []
noncomputable def lEnc (gl : Gl) : LTab := lrow 9 fun args => match args with
 | [.inl (.agg ⟨[.slice a n c, .slice b m d]⟩)] => some (true, [.inr (byE (encB gl ⟨a, n, c, b, m, d⟩)), .inl (.int .i64 (chkZ gl ⟨a, n, c, b, m, d⟩))], pre (propB (CnOk gl ⟨a, n, c, b, m, d⟩ /\ CnSm gl ⟨a, n, c, b, m, d⟩ /\ CnIn gl ⟨a, n, c, b, m, d⟩)))
 | _ => none
def ltE (M : List Int) : LE := ⟨3, 1, M.length, tabE (M.map fun x => [.int .i64 x]), true, false, true⟩
theorem ltE_el {M : List Int} {j : Nat} (hj : j < M.length) : (ltE M).el j = [.int .i64 ((M[j]?).getD 0)] := by
 show (((M.map fun x => [Value.int .i64 x])[j]?).getD []) = _
 rw [List.getElem?_map, List.getElem?_eq_getElem hj]; rfl
theorem bysL_lt (M : List Int) : bysL (ltE M) = M := by
 refine List.ext_getElem (by rw [bysL_len]; rfl) fun i h1 h2 => ?_
 have := bysL_get (e := ltE M) (j := i) h2
 rw [List.getElem?_eq_getElem h1, ltE_el h2, List.getElem?_eq_getElem h2] at this
 exact this
theorem isIntR_lt {M : List Int} (h : M.length <= 1000000) (hin : ∀ x ∈ M, inI x = true) : isIntR (ltE M) := ⟨rfl, rfl, rfl, rfl, h, fun j hj => by
 have hj : j < M.length := hj
 rw [ltE_el hj]
 exact ⟨rfl, inI_get hin hj⟩⟩
theorem vbs_app (N M : List Int) : vbs (N ++ M) = vbs N ++ vbs M := by unfold vbs; exact List.flatMap_append
theorem wr_list (N M : List Int) : byE (bysL (byE (vbs N)) ++ vbs (bysL (ltE M))) = byE (vbs (N ++ M)) := by
 rw [bysL_byE, bysL_lt, vbs_app]
theorem wr_ok {N M : List Int} (hN : ∀ x ∈ N, inI x = true) (hl : N.length <= 900000000) (hM : M.length <= 1000000) (hin : ∀ x ∈ M, inI x = true) : isByR (byE (vbs N)) /\ isIntR (ltE M) :=
 ⟨isByR_byE (by have := vbs_len N hN; omega), isIntR_lt hM hin⟩
theorem hrL_mem {gl : Gl} {v : Value} {x : Int} : ∀ {n k : Nat}, k < n -> x ∈ recL (rcG gl v k) -> x ∈ hrL gl v n
 | 0, k, h, _ => absurd h (Nat.not_lt_zero _)
 | n + 1, k, h, hx => by
   show x ∈ hrL gl v n ++ recL (rcG gl v n)
   by_cases hk : k = n
   . subst hk; exact List.mem_append_right _ hx
   . exact List.mem_append_left _ (hrL_mem (by omega) hx)
theorem hsL_mem {gl : Gl} {c : Cn} {x : Int} : ∀ {n i : Nat}, i < n -> (x = (lenV (c.hv gl i) : Int) \/ x ∈ hrL gl (c.hv gl i) (lenV (c.hv gl i))) -> x ∈ hsL gl c n
 | 0, i, h, _ => absurd h (Nat.not_lt_zero _)
 | n + 1, i, h, hx => by
   show x ∈ hsL gl c n ++ ([(lenV (c.hv gl n) : Int)] ++ hrL gl (c.hv gl n) (lenV (c.hv gl n)))
   by_cases hk : i = n
   . subst hk
     refine List.mem_append_right _ ?_
     rcases hx with rfl | hx
     . exact List.mem_append_left _ (by simp)
     . exact List.mem_append_right _ hx
   . exact List.mem_append_left _ (hsL_mem (by omega) hx)
theorem rsL_memA {gl : Gl} {c : Cn} {x : Int} : ∀ {n i : Nat}, i < n -> (x = raG gl c.r i \/ x = (lenV (c.rv gl i) : Int)) -> x ∈ rsL gl c n
 | 0, i, h, _ => absurd h (Nat.not_lt_zero _)
 | n + 1, i, h, hx => by
   show x ∈ rsL gl c n ++ ([raG gl c.r n, (lenV (c.rv gl n) : Int)] ++ rrL gl (c.rv gl n) (lenV (c.rv gl n)))
   by_cases hk : i = n
   . subst hk
     exact List.mem_append_right _ (List.mem_append_left _ (by rcases hx with rfl | rfl <;> simp))
   . exact List.mem_append_left _ (rsL_memA (by omega) hx)
theorem rec_in {gl : Gl} {c : Cn} (h : CnIn gl c) {i k : Nat} (hi : i < c.hn) (hk : k < lenV (c.hv gl i)) : ∀ x ∈ recL (rcG gl (c.hv gl i) k), inI x = true := fun x hx =>
 cnIn_mem h (List.mem_append_left _ (List.mem_append_left _ (List.mem_append_right _ (hsL_mem hi (.inr (hrL_mem hk hx))))))
theorem hlen_in {gl : Gl} {c : Cn} (h : CnIn gl c) {i : Nat} (hi : i < c.hn) : inI (lenV (c.hv gl i) : Int) = true :=
 cnIn_mem h (List.mem_append_left _ (List.mem_append_left _ (List.mem_append_right _ (hsL_mem hi (.inl rfl)))))
theorem radr_in {gl : Gl} {c : Cn} (h : CnIn gl c) {i : Nat} (hi : i < c.rn) : inI (raG gl c.r i) = true /\ inI (lenV (c.rv gl i) : Int) = true :=
 ⟨cnIn_mem h (List.mem_append_right _ (rsL_memA hi (.inl rfl))), cnIn_mem h (List.mem_append_right _ (rsL_memA hi (.inr rfl)))⟩
theorem not_both {gl : Gl} {c : Cn} (hw : WellC gl c) {i k : Nat} (hi : i < c.hn) (hk : k < lenV (c.hv gl i)) : cdZ (rcG gl (c.hv gl i) k).wt (rcG gl (c.hv gl i) k).fl = flI (rcG gl (c.hv gl i) k) := by
 have h := hw.rc i k hi hk
 rw [cdZ_eq]
 unfold flI
 unfold ck3B at h
 cases h1 : (rcG gl (c.hv gl i) k).wt <;> cases h2 : (rcG gl (c.hv gl i) k).fl
 . rfl
 . rfl
 . rfl
 . rw [h1, h2] at h
   cases hx : ((rcG gl (c.hv gl i) k).sh == -1) <;> rw [hx] at h <;> cases h
def ecQ (s : List Nat) (l : Nat) (o : Nat) : Pick := { ts := [1, 5] ++ s, bs := [0], ls := [l], opn := [o] }
theorem ec2_one (gl : Gl) (c : Cn) (hc : CnOk gl c) (sc : CnSm gl c) (hw : WellC gl c) (ci : CnIn gl c) (i k : Nat) (hi : i < c.hn) (hk : k < lenV (c.hv gl i)) (N : List Int) (hN : ∀ x ∈ N, inI x = true) (hl : N.length <= 900000000) (W : World) (hG : GlobOk gl W) : S2.Sem (enE13 gl) W 97 (ecK (eI2 ++ (0 :: eP1))) (ecS c N (ecL2 gl c i k)) none (ecX c (byE (bysL (byE (vbs N)) ++ vbs (bysL (ltE [(rcG gl (c.hv gl i) k).pc, (rcG gl (c.hv gl i) k).val, (rcG gl (c.hv gl i) k).sh, (rcG gl (c.hv gl i) k).sa, cdZ (rcG gl (c.hv gl i) k).wt (rcG gl (c.hv gl i) k).fl])))) (ecL2 gl c i (k + 1))) := by
 have s3 := sc.2.2.1 i hi
 have hm := rec_in ci hi hk
 refine sem_iter (enE13_ok gl) hG (p := ecQ [25, 26, 27, 36, 37, 38] 2 38) (fuel := 1000) [true] [(pre (inI ((k : Int) + 1)), true), (pre (propB (isByR (byE (vbs N)) /\ isIntR (ltE [(rcG gl (c.hv gl i) k).pc, (rcG gl (c.hv gl i) k).val, (rcG gl (c.hv gl i) k).sh, (rcG gl (c.hv gl i) k).sa, cdZ (rcG gl (c.hv gl i) k).wt (rcG gl (c.hv gl i) k).fl]))), true), (true, true), (pre (rowB gl (c.hv gl i) (rcE gl (c.hv gl i))), true), (pre (decide (k < lenV (c.hv gl i))), true), (pre (rowB gl (c.hv gl i) (rcE gl (c.hv gl i))), true), (pre (idxB (k : Int) (lenV (c.hv gl i))), true), (decide ((k : Int) < ((lenV (c.hv gl i) : Nat) : Int)), true)] (by kernel_rfl) (by kernel_rfl) ?_
 refine qF ?_ ?_ ?_ ?_ <| qF ?_ ?_ ?_ ?_ <| qZ
 . exact ob_inI (by omega)
 . exact propB_ok.mpr (wr_ok hN hl (by show 5 <= 1000000; omega) (by rw [not_both hw hi hk]; exact hm))
 . exact rfl
 . exact rowB_ok.mpr (by first | exact hc.hs | exact hc.rw | exact hc.rc _ (by omega) | exact hc.rf _ (by omega))
 . exact ob_lt (by omega)
 . exact rowB_ok.mpr (by first | exact hc.hs | exact hc.rw | exact hc.rc _ (by omega) | exact hc.rf _ (by omega))
 . exact ob_idx (by omega)
 . exact ob_yes (by omega)
theorem ec2_step (gl : Gl) (c : Cn) (hc : CnOk gl c) (sc : CnSm gl c) (hw : WellC gl c) (ci : CnIn gl c) (i k : Nat) (hi : i < c.hn) (hk : k < lenV (c.hv gl i)) (N : List Int) (hN : ∀ x ∈ N, inI x = true) (hl : N.length <= 900000000) (W : World) (hG : GlobOk gl W) : S2.Sem (enE13 gl) W 97 (ecK (eI2 ++ (0 :: eP1))) (ecS c N (ecL2 gl c i k)) none (ecS c (N ++ recL (rcG gl (c.hv gl i) k)) (ecL2 gl c i (k + 1))) := by
 have h := ec2_one gl c hc sc hw ci i k hi hk N hN hl W hG
 rw [wr_list, not_both hw hi hk] at h
 exact h
theorem ec2_end (gl : Gl) (c : Cn) (hc : CnOk gl c) (sc : CnSm gl c) (hw : WellC gl c) (ci : CnIn gl c) (i : Nat) (hi : i < c.hn) (N : List Int) (W : World) (hG : GlobOk gl W) : S2.Sem (enE13 gl) W 97 (ecK (eI2 ++ (0 :: eP1))) (ecS c N (ecL2 gl c i (lenV (c.hv gl i)))) (some (some 2)) (ecS c N (ecL2 gl c i (lenV (c.hv gl i)))) :=
 sem_iter (enE13_ok gl) hG (p := ecQ [25, 26, 27, 36, 37, 38] 0 38) (fuel := 1000) [false] [(decide (((lenV (c.hv gl i) : Nat) : Int) < ((lenV (c.hv gl i) : Nat) : Int)), false)] (by kernel_rfl) (by kernel_rfl) (qA (ob_no (by omega)) qZ)
theorem mem_app {N M : List Int} (h1 : ∀ x ∈ N, inI x = true) (h2 : ∀ x ∈ M, inI x = true) : ∀ x ∈ N ++ M, inI x = true := fun x hx => (List.mem_append.mp hx).elim (h1 x) (h2 x)
theorem hrL_sub {gl : Gl} {v : Value} {x : Int} : ∀ {k n : Nat}, k <= n -> x ∈ hrL gl v k -> x ∈ hrL gl v n := fun {k n} h hx => by
 induction k with
 | zero => cases hx
 | succ k ih =>
   rcases List.mem_append.mp (show x ∈ hrL gl v k ++ recL _ from hx) with h1 | h1
   . exact ih (by omega) h1
   . exact hrL_mem (show k < n by omega) h1
theorem hrec_in {gl : Gl} {c : Cn} (h : CnIn gl c) {i : Nat} (hi : i < c.hn) : ∀ x ∈ hrL gl (c.hv gl i) (lenV (c.hv gl i)), inI x = true := fun x hx =>
 cnIn_mem h (List.mem_append_left _ (List.mem_append_left _ (List.mem_append_right _ (hsL_mem hi (.inr hx)))))
theorem ec2_all (gl : Gl) (c : Cn) (hc : CnOk gl c) (sc : CnSm gl c) (hw : WellC gl c) (ci : CnIn gl c) (i : Nat) (hi : i < c.hn) (N : List Int) (hN : ∀ x ∈ N, inI x = true) (hl : N.length <= 800000000) (W : World) (hG : GlobOk gl W) : S2.Sem (enE13 gl) W 97 (.loop (ecK (eI2 ++ (0 :: eP1)))) (ecS c N (ecL2 gl c i 0)) (some (some 2)) (ecS c (N ++ hrL gl (c.hv gl i) (lenV (c.hv gl i))) (ecL2 gl c i (lenV (c.hv gl i)))) := by
 have hv := hw.hv i hi
 have hlp := sem_loop (E := enE13 gl) (w0 := base0 W) (nb := 0) (nl := 0) (n := 97) (c := (ecK (eI2 ++ (0 :: eP1)))) (x := some (some 2)) (s' := ecS c (N ++ hrL gl (c.hv gl i) (lenV (c.hv gl i))) (ecL2 gl c i (lenV (c.hv gl i)))) (fun z => ecS c (N ++ hrL gl (c.hv gl i) z) (ecL2 gl c i z)) (lenV (c.hv gl i)) (by simp) (fun z hz => by
   have := ec2_step gl c hc sc hw ci i z hi hz (N ++ hrL gl (c.hv gl i) z) (mem_app hN fun x hx => hrec_in ci hi x (hrL_sub (by omega) hx)) (by rw [List.length_append, hrL_len]; omega) W hG
   rw [List.append_assoc] at this
   exact this) (ec2_end gl c hc sc hw ci i hi _ W hG)
 rw [show N ++ hrL gl (c.hv gl i) 0 = N from List.append_nil _] at hlp
 exact hlp
theorem ec1_one (gl : Gl) (c : Cn) (hc : CnOk gl c) (sc : CnSm gl c) (hw : WellC gl c) (ci : CnIn gl c) (i : Nat) (hi : i < c.hn) (N : List Int) (hN : ∀ x ∈ N, inI x = true) (hl : N.length <= 700000000) (W : World) (hG : GlobOk gl W) : S2.Sem (enE13 gl) W 97 (ecK eP1) (ecS c N (ecL1 c i)) none (ecS c ((N ++ [(lenV (c.hv gl i) : Int)]) ++ hrL gl (c.hv gl i) (lenV (c.hv gl i))) (ecL1 c (i + 1))) := by
 have s1 := sc.1
 have s3 := sc.2.2.1 i hi
 have m1 : ∀ x ∈ [(lenV (c.hv gl i) : Int)], inI x = true := fun x hx => by obtain rfl := List.mem_singleton.mp hx; exact hlen_in ci hi
 refine sem_iterP (enE13_ok gl) hG (fuel := 1000) (d := 30) (p := ecQ [25, 26, 27] 0 27) [⟨eI2, ecQ [25, 26, 27, 36, 37, 38] 2 38, some (some 2), ecS c ((N ++ [(lenV (c.hv gl i) : Int)]) ++ hrL gl (c.hv gl i) (lenV (c.hv gl i))) (ecL2 gl c i (lenV (c.hv gl i)))⟩] [true] [(pre (inI ((i : Int) + 1)), true), (pre (rowB gl (c.hv gl i) (rcE gl (c.hv gl i))), true), (pre (propB (isByR (byE (vbs N)) /\ isIntR (ltE [(lenV (c.hv gl i) : Int)]))), true), (pre (rowB gl (c.hv gl i) (rcE gl (c.hv gl i))), true), (pre (rowB gl c.h (hsE gl c.h)), true), (pre (decide (i < c.hn)), true), (pre (rowB gl c.h (hsE gl c.h)), true), (pre (idxB (i : Int) c.hn), true), (decide ((i : Int) < (c.hn : Int)), true)] [⟨.loop (ecK (eI2 ++ (0 :: eP1))), ecX c (byE (bysL (byE (vbs N)) ++ vbs (bysL (ltE [(lenV (c.hv gl i) : Int)])))) (ecL2 gl c i 0), some (some 2), ecS c ((N ++ [(lenV (c.hv gl i) : Int)]) ++ hrL gl (c.hv gl i) (lenV (c.hv gl i))) (ecL2 gl c i (lenV (c.hv gl i)))⟩] (by kernel_rfl) (by kernel_rfl) ?_ (fun t ht => by
   obtain rfl := List.mem_singleton.mp ht
   show S2.Sem (enE13 gl) W 97 (.loop (ecK (eI2 ++ (0 :: eP1)))) (ecX c (byE (bysL (byE (vbs N)) ++ vbs (bysL (ltE [(lenV (c.hv gl i) : Int)])))) (ecL2 gl c i 0)) _ _
   rw [wr_list]
   exact ec2_all gl c hc sc hw ci i hi (N ++ [(lenV (c.hv gl i) : Int)]) (mem_app hN m1) (by rw [List.length_append]; show N.length + 1 <= _; omega) W hG)
 refine qF ?_ ?_ ?_ ?_ <| qF ?_ ?_ ?_ ?_ <| qA ?_ <| qZ
 . exact ob_inI (by omega)
 . exact rowB_ok.mpr (by first | exact hc.hs | exact hc.rw | exact hc.rc _ (by omega) | exact hc.rf _ (by omega))
 . exact propB_ok.mpr (wr_ok hN (by omega) (by show 1 <= 1000000; omega) m1)
 . exact rowB_ok.mpr (by first | exact hc.hs | exact hc.rw | exact hc.rc _ (by omega) | exact hc.rf _ (by omega))
 . exact rowB_ok.mpr (by first | exact hc.hs | exact hc.rw | exact hc.rc _ (by omega) | exact hc.rf _ (by omega))
 . exact ob_lt (by omega)
 . exact rowB_ok.mpr (by first | exact hc.hs | exact hc.rw | exact hc.rc _ (by omega) | exact hc.rf _ (by omega))
 . exact ob_idx (by omega)
 . exact ob_yes (by omega)
theorem ec1_end (gl : Gl) (c : Cn) (hc : CnOk gl c) (sc : CnSm gl c) (hw : WellC gl c) (ci : CnIn gl c) (N : List Int) (W : World) (hG : GlobOk gl W) : S2.Sem (enE13 gl) W 97 (ecK eP1) (ecS c N (ecL1 c c.hn)) (some (some 0)) (ecS c N (ecL1 c c.hn)) :=
 sem_iter (enE13_ok gl) hG (p := ecQ [25, 26, 27] 0 27) (fuel := 1000) [false] [(decide ((c.hn : Int) < (c.hn : Int)), false)] (by kernel_rfl) (by kernel_rfl) (qA (ob_no (by omega)) qZ)
theorem hsL_sub {gl : Gl} {c : Cn} {x : Int} : ∀ {k : Nat}, k <= c.hn -> x ∈ hsL gl c k -> x ∈ hsL gl c c.hn := fun {k} h hx => by
 induction k with
 | zero => cases hx
 | succ k ih =>
   rcases List.mem_append.mp (show x ∈ hsL gl c k ++ ([(lenV (c.hv gl k) : Int)] ++ hrL gl (c.hv gl k) (lenV (c.hv gl k))) from hx) with h1 | h1
   . exact ih (by omega) h1
   . refine hsL_mem (show k < c.hn by omega) ?_
     rcases List.mem_append.mp h1 with h2 | h2
     . exact .inl (List.mem_singleton.mp h2)
     . exact .inr h2
theorem ec1_all (gl : Gl) (c : Cn) (hc : CnOk gl c) (sc : CnSm gl c) (hw : WellC gl c) (ci : CnIn gl c) (N : List Int) (hN : ∀ x ∈ N, inI x = true) (hl : N.length <= 1000) (W : World) (hG : GlobOk gl W) : S2.Sem (enE13 gl) W 97 (.loop (ecK eP1)) (ecS c N (ecL1 c 0)) (some (some 0)) (ecS c (N ++ hsL gl c c.hn) (ecL1 c c.hn)) := by
 have h8 := hw.hn
 have hlp := sem_loop (E := enE13 gl) (w0 := base0 W) (nb := 0) (nl := 0) (n := 97) (c := (ecK eP1)) (x := some (some 0)) (s' := ecS c (N ++ hsL gl c c.hn) (ecL1 c c.hn)) (fun z => ecS c (N ++ hsL gl c z) (ecL1 c z)) c.hn (by simp) (fun z hz => by
   have := ec1_one gl c hc sc hw ci z hz (N ++ hsL gl c z) (mem_app hN fun x hx => cnIn_mem ci (List.mem_append_left _ (List.mem_append_left _ (List.mem_append_right _ (hsL_sub (by omega) hx))))) (by
     have := hsL_len (gl := gl) (c := c) (fun i hi => by have := hw.hv i hi; omega) z (by omega)
     rw [List.length_append]; omega) W hG
   rw [List.append_assoc, List.append_assoc] at this
   exact this) (ec1_end gl c hc sc hw ci _ W hG)
 rw [show N ++ hsL gl c 0 = N from List.append_nil _] at hlp
 exact hlp
def ecL3 (c : Cn) (i : Nat) : List (Nat × S2.SV) := [(66, .inl ([true], .slice c.ra c.rn c.rc)), (67, .inl ([true], .int .i64 c.rn)), (68, .inl ([true], .int .i64 i))]
noncomputable def ecL4 (gl : Gl) (c : Cn) (i k : Nat) : List (Nat × S2.SV) := ecL3 c i ++ [(81, .inl ([true], slG gl (.slice c.ra c.rn c.rc) 2 1 i)), (82, .inl ([true], .int .i64 (lenV (c.rv gl i) : Nat))), (83, .inl ([true], .int .i64 k))]
theorem ec4_one (gl : Gl) (c : Cn) (hc : CnOk gl c) (sc : CnSm gl c) (hw : WellC gl c) (ci : CnIn gl c) (i k : Nat) (hi : i < c.rn) (hk : k < lenV (c.rv gl i)) (N : List Int) (hN : ∀ x ∈ N, inI x = true) (hl : N.length <= 900000000) (W : World) (hG : GlobOk gl W) : S2.Sem (enE13 gl) W 97 (ecK (eI2 ++ (0 :: eP3))) (ecS c N (ecL4 gl c i k)) none (ecX c (byE (bysL (byE (vbs N)) ++ vbs (bysL (ltE [(rfG gl (c.rv gl i) k).h, (rfG gl (c.rv gl i) k).a])))) (ecL4 gl c i (k + 1))) := by
 have s3 := sc.2.2.2 i hi
 have hm := rfIn_of ci i hi k hk
 refine sem_iter (enE13_ok gl) hG (p := ecQ [66, 67, 68, 81, 82, 83] 2 83) (fuel := 1000) [true] [(pre (inI ((k : Int) + 1)), true), (pre (propB (isByR (byE (vbs N)) /\ isIntR (ltE [(rfG gl (c.rv gl i) k).h, (rfG gl (c.rv gl i) k).a]))), true), (pre (rowB gl (c.rv gl i) (rfE gl (c.rv gl i))), true), (pre (decide (k < lenV (c.rv gl i))), true), (pre (rowB gl (c.rv gl i) (rfE gl (c.rv gl i))), true), (pre (idxB (k : Int) (lenV (c.rv gl i))), true), (decide ((k : Int) < ((lenV (c.rv gl i) : Nat) : Int)), true)] (by kernel_rfl) (by kernel_rfl) ?_
 refine qF ?_ ?_ ?_ ?_ <| qA ?_ <| qA ?_ <| qA ?_ <| qZ
 . exact ob_inI (by omega)
 . exact propB_ok.mpr (wr_ok hN hl (by show 2 <= 1000000; omega) (fun x hx => by simp only [List.mem_cons, List.not_mem_nil, or_false] at hx; rcases hx with rfl | rfl; exact hm.1; exact hm.2))
 . exact rowB_ok.mpr (by first | exact hc.hs | exact hc.rw | exact hc.rc _ (by omega) | exact hc.rf _ (by omega))
 . exact ob_lt (by omega)
 . exact rowB_ok.mpr (by first | exact hc.hs | exact hc.rw | exact hc.rc _ (by omega) | exact hc.rf _ (by omega))
 . exact ob_idx (by omega)
 . exact ob_yes (by omega)
theorem ec4_step (gl : Gl) (c : Cn) (hc : CnOk gl c) (sc : CnSm gl c) (hw : WellC gl c) (ci : CnIn gl c) (i k : Nat) (hi : i < c.rn) (hk : k < lenV (c.rv gl i)) (N : List Int) (hN : ∀ x ∈ N, inI x = true) (hl : N.length <= 900000000) (W : World) (hG : GlobOk gl W) : S2.Sem (enE13 gl) W 97 (ecK (eI2 ++ (0 :: eP3))) (ecS c N (ecL4 gl c i k)) none (ecS c (N ++ [(rfG gl (c.rv gl i) k).h, (rfG gl (c.rv gl i) k).a]) (ecL4 gl c i (k + 1))) := by
 have h := ec4_one gl c hc sc hw ci i k hi hk N hN hl W hG
 rw [wr_list] at h
 exact h
theorem ec4_end (gl : Gl) (c : Cn) (hc : CnOk gl c) (sc : CnSm gl c) (hw : WellC gl c) (ci : CnIn gl c) (i : Nat) (hi : i < c.rn) (N : List Int) (W : World) (hG : GlobOk gl W) : S2.Sem (enE13 gl) W 97 (ecK (eI2 ++ (0 :: eP3))) (ecS c N (ecL4 gl c i (lenV (c.rv gl i)))) (some (some 6)) (ecS c N (ecL4 gl c i (lenV (c.rv gl i)))) :=
 sem_iter (enE13_ok gl) hG (p := ecQ [66, 67, 68, 81, 82, 83] 0 83) (fuel := 1000) [false] [(decide (((lenV (c.rv gl i) : Nat) : Int) < ((lenV (c.rv gl i) : Nat) : Int)), false)] (by kernel_rfl) (by kernel_rfl) (qA (ob_no (by omega)) qZ)
theorem rrL_sub {gl : Gl} {v : Value} {x : Int} : ∀ {k n : Nat}, k <= n -> x ∈ rrL gl v k -> x ∈ rrL gl v n := fun {k n} h hx => by
 induction k with
 | zero => cases hx
 | succ k ih =>
   rcases List.mem_append.mp (show x ∈ rrL gl v k ++ [(rfG gl v k).h, (rfG gl v k).a] from hx) with h1 | h1
   . exact ih (by omega) h1
   . obtain ⟨q1, q2⟩ := rrL_mem (gl := gl) (v := v) (show k < n by omega)
     simp only [List.mem_cons, List.not_mem_nil, or_false] at h1
     rcases h1 with rfl | rfl
     . exact q1
     . exact q2
theorem ec4_all (gl : Gl) (c : Cn) (hc : CnOk gl c) (sc : CnSm gl c) (hw : WellC gl c) (ci : CnIn gl c) (i : Nat) (hi : i < c.rn) (N : List Int) (hN : ∀ x ∈ N, inI x = true) (hl : N.length <= 800000000) (W : World) (hG : GlobOk gl W) : S2.Sem (enE13 gl) W 97 (.loop (ecK (eI2 ++ (0 :: eP3)))) (ecS c N (ecL4 gl c i 0)) (some (some 6)) (ecS c (N ++ rrL gl (c.rv gl i) (lenV (c.rv gl i))) (ecL4 gl c i (lenV (c.rv gl i)))) := by
 have hv := row_most hw i hi
 have hlp := sem_loop (E := enE13 gl) (w0 := base0 W) (nb := 0) (nl := 0) (n := 97) (c := (ecK (eI2 ++ (0 :: eP3)))) (x := some (some 6)) (s' := ecS c (N ++ rrL gl (c.rv gl i) (lenV (c.rv gl i))) (ecL4 gl c i (lenV (c.rv gl i)))) (fun z => ecS c (N ++ rrL gl (c.rv gl i) z) (ecL4 gl c i z)) (lenV (c.rv gl i)) (by simp) (fun z hz => by
   have := ec4_step gl c hc sc hw ci i z hi hz (N ++ rrL gl (c.rv gl i) z) (mem_app hN fun x hx => cnIn_mem ci (List.mem_append_right _ (rsL_mem hi (rrL_sub (by omega) hx)))) (by rw [List.length_append, rrL_len]; omega) W hG
   rw [List.append_assoc] at this
   exact this) (ec4_end gl c hc sc hw ci i hi _ W hG)
 rw [show N ++ rrL gl (c.rv gl i) 0 = N from List.append_nil _] at hlp
 exact hlp
theorem ec3_one (gl : Gl) (c : Cn) (hc : CnOk gl c) (sc : CnSm gl c) (hw : WellC gl c) (ci : CnIn gl c) (i : Nat) (hi : i < c.rn) (N : List Int) (hN : ∀ x ∈ N, inI x = true) (hl : N.length <= 700000000) (W : World) (hG : GlobOk gl W) : S2.Sem (enE13 gl) W 97 (ecK eP3) (ecS c N (ecL3 c i)) none (ecS c ((N ++ [raG gl c.r i, (lenV (c.rv gl i) : Int)]) ++ rrL gl (c.rv gl i) (lenV (c.rv gl i))) (ecL3 c (i + 1))) := by
 have s1 := sc.2.1
 have s3 := sc.2.2.2 i hi
 have m1 : ∀ x ∈ [raG gl c.r i, (lenV (c.rv gl i) : Int)], inI x = true := fun x hx => by
   obtain ⟨q1, q2⟩ := radr_in ci hi
   simp only [List.mem_cons, List.not_mem_nil, or_false] at hx
   rcases hx with rfl | rfl
   . exact q1
   . exact q2
 refine sem_iterP (enE13_ok gl) hG (fuel := 1000) (d := 30) (p := ecQ [66, 67, 68] 0 68) [⟨eI2, ecQ [66, 67, 68, 81, 82, 83] 2 83, some (some 6), ecS c ((N ++ [raG gl c.r i, (lenV (c.rv gl i) : Int)]) ++ rrL gl (c.rv gl i) (lenV (c.rv gl i))) (ecL4 gl c i (lenV (c.rv gl i)))⟩] [true] [(pre (inI ((i : Int) + 1)), true), (pre (rowB gl (c.rv gl i) (rfE gl (c.rv gl i))), true), (pre (propB (isByR (byE (vbs N)) /\ isIntR (ltE [raG gl c.r i, (lenV (c.rv gl i) : Int)]))), true), (pre (rowB gl (c.rv gl i) (rfE gl (c.rv gl i))), true), (pre (rowB gl c.r (rwE gl c.r)), true), (pre (decide (i < c.rn)), true), (pre (rowB gl c.r (rwE gl c.r)), true), (pre (idxB (i : Int) c.rn), true), (decide ((i : Int) < (c.rn : Int)), true)] [⟨.loop (ecK (eI2 ++ (0 :: eP3))), ecX c (byE (bysL (byE (vbs N)) ++ vbs (bysL (ltE [raG gl c.r i, (lenV (c.rv gl i) : Int)])))) (ecL4 gl c i 0), some (some 6), ecS c ((N ++ [raG gl c.r i, (lenV (c.rv gl i) : Int)]) ++ rrL gl (c.rv gl i) (lenV (c.rv gl i))) (ecL4 gl c i (lenV (c.rv gl i)))⟩] (by kernel_rfl) (by kernel_rfl) ?_ (fun t ht => by
   obtain rfl := List.mem_singleton.mp ht
   show S2.Sem (enE13 gl) W 97 (.loop (ecK (eI2 ++ (0 :: eP3)))) (ecX c (byE (bysL (byE (vbs N)) ++ vbs (bysL (ltE [raG gl c.r i, (lenV (c.rv gl i) : Int)])))) (ecL4 gl c i 0)) _ _
   rw [wr_list]
   exact ec4_all gl c hc sc hw ci i hi (N ++ [raG gl c.r i, (lenV (c.rv gl i) : Int)]) (mem_app hN m1) (by rw [List.length_append]; show N.length + 2 <= _; omega) W hG)
 refine qF ?_ ?_ ?_ ?_ <| qF ?_ ?_ ?_ ?_ <| qA ?_ <| qZ
 . exact ob_inI (by omega)
 . exact rowB_ok.mpr (by first | exact hc.hs | exact hc.rw | exact hc.rc _ (by omega) | exact hc.rf _ (by omega))
 . exact propB_ok.mpr (wr_ok hN (by omega) (by show 2 <= 1000000; omega) m1)
 . exact rowB_ok.mpr (by first | exact hc.hs | exact hc.rw | exact hc.rc _ (by omega) | exact hc.rf _ (by omega))
 . exact rowB_ok.mpr (by first | exact hc.hs | exact hc.rw | exact hc.rc _ (by omega) | exact hc.rf _ (by omega))
 . exact ob_lt (by omega)
 . exact rowB_ok.mpr (by first | exact hc.hs | exact hc.rw | exact hc.rc _ (by omega) | exact hc.rf _ (by omega))
 . exact ob_idx (by omega)
 . exact ob_yes (by omega)
theorem ec3_end (gl : Gl) (c : Cn) (hc : CnOk gl c) (sc : CnSm gl c) (hw : WellC gl c) (ci : CnIn gl c) (N : List Int) (W : World) (hG : GlobOk gl W) : S2.Sem (enE13 gl) W 97 (ecK eP3) (ecS c N (ecL3 c c.rn)) (some (some 4)) (ecS c N (ecL3 c c.rn)) :=
 sem_iter (enE13_ok gl) hG (p := ecQ [66, 67, 68] 0 68) (fuel := 1000) [false] [(decide ((c.rn : Int) < (c.rn : Int)), false)] (by kernel_rfl) (by kernel_rfl) (qA (ob_no (by omega)) qZ)
theorem rsL_sub {gl : Gl} {c : Cn} {x : Int} : ∀ {k : Nat}, k <= c.rn -> x ∈ rsL gl c k -> x ∈ rsL gl c c.rn := fun {k} h hx => by
 induction k with
 | zero => cases hx
 | succ k ih =>
   rcases List.mem_append.mp (show x ∈ rsL gl c k ++ ([raG gl c.r k, (lenV (c.rv gl k) : Int)] ++ rrL gl (c.rv gl k) (lenV (c.rv gl k))) from hx) with h1 | h1
   . exact ih (by omega) h1
   . rcases List.mem_append.mp h1 with h2 | h2
     . exact rsL_memA (show k < c.rn by omega) (by simpa using h2)
     . exact rsL_mem (show k < c.rn by omega) h2
theorem ec3_all (gl : Gl) (c : Cn) (hc : CnOk gl c) (sc : CnSm gl c) (hw : WellC gl c) (ci : CnIn gl c) (N : List Int) (hN : ∀ x ∈ N, inI x = true) (hl : N.length <= 510000000) (W : World) (hG : GlobOk gl W) : S2.Sem (enE13 gl) W 97 (.loop (ecK eP3)) (ecS c N (ecL3 c 0)) (some (some 4)) (ecS c (N ++ rsL gl c c.rn) (ecL3 c c.rn)) := by
 have h8 := rows_most hw
 have hlp := sem_loop (E := enE13 gl) (w0 := base0 W) (nb := 0) (nl := 0) (n := 97) (c := (ecK eP3)) (x := some (some 4)) (s' := ecS c (N ++ rsL gl c c.rn) (ecL3 c c.rn)) (fun z => ecS c (N ++ rsL gl c z) (ecL3 c z)) c.rn (by simp) (fun z hz => by
   have := ec3_one gl c hc sc hw ci z hz (N ++ rsL gl c z) (mem_app hN fun x hx => cnIn_mem ci (List.mem_append_right _ (rsL_sub (by omega) hx))) (by
     have := rsL_len (gl := gl) (c := c) (fun i hi => by have := row_most hw i hi; omega) z (by omega)
     rw [List.length_append]; omega) W hG
   rw [List.append_assoc, List.append_assoc] at this
   exact this) (ec3_end gl c hc sc hw ci _ W hG)
 rw [show N ++ rsL gl c 0 = N from List.append_nil _] at hlp
 exact hlp
def ecP1 : Pick := { ts := [1, 5, 25, 26, 27], bs := [0], ls := [1], opn := [27] }
def ecP3 : Pick := { ts := [1, 5, 66, 67, 68], bs := [0], ls := [2], opn := [68] }
theorem obL_vbs (N : List Int) : obL N N.length = vbs N := by
 have key : ∀ j, j <= N.length -> obL N j = vbs (N.take j) := fun j => by
   induction j with
   | zero => exact fun _ => rfl
   | succ j ih =>
     intro hj
     rw [take_snoc (by omega), vbs_snoc, <- ih (by omega)]
     rfl
 rw [key _ (Nat.le_refl _), List.take_length]
theorem nil_tup {P : Program} {f : FuncId} {vals : List Value} {x : Value} {w : World} (h : LRet P f vals false [.inl (.tuple #[.slice none 0 0, x])] w) : LRet P f vals true [.inr (byE []), .inl x] w := h.mono fun e w' ⟨vs, h1, h2, h3⟩ => by
 obtain rfl := outOk_v h2
 exact ⟨[.slice none 0 0, x], h1, ⟨[.slice none 0 0, x], ⟨_, _, _, rfl, rfl, _, _, _, rfl, rfl, rfl, rfl⟩, ⟨⟨⟨⟨Nat.one_pos, fun j hj => absurd hj (Nat.not_lt_zero _)⟩, rfl, .inl ⟨rfl, rfl⟩⟩, fun g hg => by cases hg⟩, rfl, trivial⟩⟩, h3⟩
theorem encode_ret {gl : Gl} (c : Cn) (hc : CnOk gl c) (sc : CnSm gl c) (ci : CnIn gl c) (w : World) (hG : GlobOk gl w) (vals : List Value) (ha : ArgsOk w [.inl (cnV c)] vals) : LRet Try.prog 9 vals true [.inr (byE (encB gl c)), .inl (.int .i64 (chkZ gl c))] w := by
 by_cases h0 : chkZ gl c = 0
 . have hw := wellC_of h0
   have hB : encB gl c = vbs (numL13 gl c) := by unfold encB; rw [if_pos h0]; exact obL_vbs _
   have n1 : ∀ x ∈ [(c.hn : Int)], inI x = true := fun x hx => cnIn_mem ci (List.mem_append_left _ (List.mem_append_left _ (List.mem_append_left _ hx)))
   have n2 : ∀ x ∈ harL gl c, inI x = true := fun x hx => cnIn_mem ci (List.mem_append_left _ (List.mem_append_left _ hx))
   have n3 : ∀ x ∈ [(c.rn : Int)], inI x = true := fun x hx => cnIn_mem ci (List.mem_append_left _ (List.mem_append_right _ hx))
   have hl := harL_len (cnBd_of h0)
   rw [hB, h0]
   refine fn_ok (enE13_ok gl) (fuel := 1000) (d := 30) (plan := [⟨eP1, ecP1, some (some 0), ecS c (harL gl c) (ecL1 c c.hn)⟩, ⟨eP3, ecP3, some (some 4), ecS c (numL13 gl c) (ecL3 c c.rn)⟩]) (orc := [false]) (fls := [[true, true]])
     (l := [(pre (rowB gl c.r (rwE gl c.r)), true), (pre (propB (isByR (byE (vbs (harL gl c))) /\ isIntR (ltE [(c.rn : Int)]))), true), (pre (rowB gl c.r (rwE gl c.r)), true), (pre (rowB gl c.h (hsE gl c.h)), true), (pre (propB (isIntR (ltE [(c.hn : Int)]))), true), (pre (rowB gl c.h (hsE gl c.h)), true), (chkZ gl c != 0, false), (pre (propB (CnOk gl c /\ CnSm gl c /\ CnIn gl c)), true)])
     (tr := [⟨.loop (ecK eP1), ecX c (byE (vbs (bysL (ltE [(c.hn : Int)])))) (ecL1 c 0), some (some 0), ecS c (harL gl c) (ecL1 c c.hn)⟩, ⟨.loop (ecK eP3), ecX c (byE (bysL (byE (vbs (harL gl c))) ++ vbs (bysL (ltE [(c.rn : Int)])))) (ecL3 c 0), some (some 4), ecS c (numL13 gl c) (ecL3 c c.rn)⟩]) (by kernel_rfl) ?_ Try.func9 w vals hG ha fun t ht => ?_
   . exact qA (rowB_ok.mpr hc.rw) <| qA (propB_ok.mpr (wr_ok n2 (by omega) (by show 1 <= 1000000; omega) n3)) <| qA (rowB_ok.mpr hc.rw) <| qA (rowB_ok.mpr hc.hs) <| qA (propB_ok.mpr (isIntR_lt (by show 1 <= 1000000; omega) n1)) <| qA (rowB_ok.mpr hc.hs) <| qA (by rw [h0]; rfl) <| qA (propB_ok.mpr ⟨hc, sc, ci⟩) qZ
   . rcases List.mem_cons.mp ht with rfl | ht
     . show S2.Sem (enE13 gl) w 97 (.loop (ecK eP1)) (ecX c (byE (vbs (bysL (ltE [(c.hn : Int)])))) (ecL1 c 0)) _ _
       rw [bysL_lt]
       exact ec1_all gl c hc sc hw ci [(c.hn : Int)] n1 (by show 1 <= 1000; omega) w hG
     . obtain rfl := List.mem_singleton.mp ht
       show S2.Sem (enE13 gl) w 97 (.loop (ecK eP3)) (ecX c (byE (bysL (byE (vbs (harL gl c))) ++ vbs (bysL (ltE [(c.rn : Int)])))) (ecL3 c 0)) _ _
       rw [wr_list]
       exact ec3_all gl c hc sc hw ci (harL gl c ++ [(c.rn : Int)]) (mem_app n2 n3) (by rw [List.length_append]; show (harL gl c).length + 1 <= _; omega) w hG
 . have hB : encB gl c = [] := if_neg h0
   rw [hB]
   refine nil_tup ?_
   refine fn_ok (enE13_ok gl) (fuel := 1000) (d := 30) (plan := []) (orc := [true]) (fls := [[true, true]]) (l := [(chkZ gl c != 0, true), (pre (propB (CnOk gl c /\ CnSm gl c /\ CnIn gl c)), true)]) (tr := []) (by kernel_rfl) ?_ Try.func9 w vals hG ha fun t ht => by cases ht
   exact qA (by simpa using h0) <| qA (propB_ok.mpr ⟨hc, sc, ci⟩) qZ
theorem lEnc_ok {gl : Gl} : LTabOk Try.prog gl (lEnc gl) := .row fun args tup res h w vals hG ha => by
 split at h
 . simp only [qS, qP] at h
   obtain ⟨rfl, rfl, hp⟩ := h
   obtain ⟨h1, h2, h3⟩ := propB_ok.mp hp
   exact encode_ret _ h1 h2 h3 w hG vals ha
 . cases h
end Go.Proofs.Ytmaffamhjmlonaa
