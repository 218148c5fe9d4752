/- Layer 11: link.lay and link.Link. -/
import Derived.Test.YtilljoemebbnjaaDoorLnk11
set_option linter.unusedVariables false
set_option linter.unusedSimpArgs false
namespace Go.Proofs.YtilljoemebbnjaaDoor
open Go.RowKit Sim S2
theorem xp_wf (f : Nat -> It) : ∀ j, (∀ i, i < j -> wfIt (f i)) -> ∀ i ∈ xpL f j, wfIt i
 | 0, _, i, hi => by cases hi
 | j + 1, h, i, hi => by
   have hi : i ∈ xpL f j ++ xpd (f j) := hi
   rcases List.mem_append.mp hi with hi | hi
   . exact xp_wf f j (fun k hk => h k (by omega)) i hi
   . unfold xpd at hi
     cases e : (f j).kind == 4
     . rw [e] at hi
       have : i = f j := List.mem_singleton.mp hi
       rw [this]; exact h j (by omega)
     . rw [e] at hi
       obtain ⟨a, _, rfl⟩ := List.mem_map.mp hi
       exact ⟨by show _ <= (0 : Int); decide, by show (0 : Int) <= _; decide⟩
noncomputable def lyK (p : Pts) (j : Nat) (d : Int) : LTab := orL (lCkP (p.n j) (p.f j)) (orL (lEx (p.n j + 2) (stbF d (p.f j))) (lLyP (lkX p j d).length (elI (lkX p j d))))
noncomputable def lyKF (p : Pts) (j : Nat) (d : Int) : LTab := orL (lCkP (p.n j) (p.f j)) (orL (lEx (p.n j + 2) (stbF d (p.f j))) (lLyF (lkX p j d).length (elI (lkX p j d))))
noncomputable def envLy (gl : Gl) (p : Pts) (j : Nat) (d : Int) (l : List Nat) : S2.Env := { envk Tryd.prog gl true noT noP (lyK p j d) with lit := true, non := l }
noncomputable def envLyF (gl : Gl) (p : Pts) (j : Nat) (d : Int) (l : List Nat) : S2.Env := { envk Tryd.prog gl true noT noP (lyKF p j d) with lit := true, non := l }
theorem lyK_ok {gl : Gl} (hT : GlTo gl9 gl) (p : Pts) (j : Nat) (d : Int) : LTabOk Tryd.prog gl (lyK p j d) := (lCkP_ok _ _).or ((ltab_to (lEx_ok _ _) hT).or (lLyP_ok _ _))
theorem lyKF_ok {gl : Gl} (hT : GlTo gl9 gl) (p : Pts) (j : Nat) (d : Int) : LTabOk Tryd.prog gl (lyKF p j d) := (lCkP_ok _ _).or ((ltab_to (lEx_ok _ _) hT).or (lLyF_ok _ _))
theorem envLy_ok {gl : Gl} (hT : GlTo gl9 gl) (p : Pts) (j : Nat) (d : Int) (l : List Nat) : CallOk (envLy gl p j d l) := envk_ok (nw := true) (.none _ _) (.none _ _) (lyK_ok hT p j d)
theorem envLyF_ok {gl : Gl} (hT : GlTo gl9 gl) (p : Pts) (j : Nat) (d : Int) (l : List Nat) : CallOk (envLyF gl p j d l) := envk_ok (nw := true) (.none _ _) (.none _ _) (lyKF_ok hT p j d)
def lqC (p : Pts) (j : Nat) (d : Int) : Prop := p.n j <= 1000 /\ (∀ i, i < p.n j -> wfIt (p.f j i)) /\ 0 <= d /\ d <= 2000000
theorem lkX_wf {p : Pts} {j : Nat} {d : Int} (h : lqC p j d) : ∀ k, k < (lkX p j d).length -> wfIt (elI (lkX p j d) k) := fun k hk => by
 refine xp_wf (stbF d (p.f j)) (p.n j + 2) (stb_wf h.2.1 h.2.2.1 (by have := h.2.2.2; omega)) _ (elI_mem hk)
theorem lyx_bad {gl : Gl} (hT : GlTo gl9 gl) (p : Pts) (j : Nat) (d : Int) (hc : lqC p j d) (hb : ((unitR (p.n j) (p.f j)).2 != 0) = true) (w : World) (vals : List Value) (hG : GlobOk gl w) (ha : ArgsOk w [.inr (itE (p.n j) (p.f j)), .inl (.int .i64 d)] vals) : LRet Tryd.prog 17 vals false [.inl (.tuple #[.slice none 0 0, .slice none 0 0, .int .i64 1])] w := by
 have hn := hc.1
 have d0 := hc.2.2.1
 have d1 := hc.2.2.2
 have hX := lkX_len p j d hn
 refine fn_ok (envLy_ok hT p j d []) (fuel := 1000) (d := 30) (plan := []) (orc := [true]) (fls := [[], [true]]) (l := [((unitR (p.n j) (p.f j)).2 != 0, true), (pre (propB (isItE (itE (p.n j) (p.f j)) (p.n j) (p.f j) /\ ∀ i, i < p.n j -> wfIt (p.f j i))), true)]) (tr := []) (by kernel_rfl) ?_ Tryd.func17 w vals hG ha fun t ht => by cases ht
 refine qA ?_ <| qA ?_ <| qZ
 . exact hb
 . exact propB_ok.mpr ⟨isItE_self _ _ (by omega), hc.2.1⟩
theorem lyx_ok {gl : Gl} (hT : GlTo gl9 gl) (p : Pts) (j : Nat) (d : Int) (hc : lqC p j d) (hb : ((unitR (p.n j) (p.f j)).2 != 0) = false) (h0 : 0 < p.n j) (hf : fstN (badJ (elI (lkX p j d)) (lgG (lkX p j d).length (elI (lkX p j d))) (lkX p j d).length) (lkX p j d).length = none) (w : World) (vals : List Value) (hG : GlobOk gl w) (ha : ArgsOk w [.inr (itE (p.n j) (p.f j)), .inl (.int .i64 d)] vals) : LRet Tryd.prog 17 vals true [.inr (wdE (lkA p j d)), .inr (ntE (lkM p j d)), .inl (.int .i64 0)] w := by
 have hn := hc.1
 have d0 := hc.2.2.1
 have d1 := hc.2.2.2
 have hX := lkX_len p j d hn
 obtain ⟨u1, u2⟩ := lkUn_of (d := d) (p := p) (j := j) (by simpa using hb) hc.2.1 d0 (by omega)
 refine fn_ok (envLy_ok hT p j d []) (fuel := 1000) (d := 30) (plan := []) (orc := [false]) (fls := [[], [true]]) (l := [(pre (propB (isItE (itsE (lkX p j d)) (lkX p j d).length (elI (lkX p j d)) /\ (lkX p j d).length <= 1000000 /\ (∀ k, k < (lkX p j d).length -> wfIt (elI (lkX p j d) k)) /\ mayU (lkX p j d).length (elI (lkX p j d)) = true /\ fstN (badJ (elI (lkX p j d)) (lgG (lkX p j d).length (elI (lkX p j d))) (lkX p j d).length) (lkX p j d).length = none)), true), (pre (propB (isItE (rawI (2 + p.n j) (joinE 2 (rawI2 d) (itE (p.n j) (p.f j)).el)) (p.n j + 2) (stbF d (p.f j)) /\ p.n j + 2 <= 1000000 /\ cstOk (p.n j + 2) (stbF d (p.f j)))), true), (pre (decide (2 + p.n j <= maxLen /\ (2 + p.n j) * 72 <= 140737488355328 /\ 0 < p.n j)), true), (pre (inI (16777216 + 8 * d)), true), (pre (inI (8 * d)), true), ((unitR (p.n j) (p.f j)).2 != 0, false), (pre (propB (isItE (itE (p.n j) (p.f j)) (p.n j) (p.f j) /\ ∀ i, i < p.n j -> wfIt (p.f j i))), true)]) (tr := []) (by kernel_rfl) ?_ Tryd.func17 w vals hG ha fun t ht => by cases ht
 refine qF ?_ ?_ ?_ ?_ <| qA ?_ <| qA ?_ <| qA ?_ <| qZ
 . exact propB_ok.mpr ⟨isIt_its _ (by omega), by omega, lkX_wf hc, u2, hf⟩
 . exact propB_ok.mpr ⟨isIt_stb d (p.n j) (p.f j) (by omega), by omega, u1⟩
 . exact ob_app (by omega) (by decide) (by omega)
 . exact ob_inI (by omega)
 . exact ob_inI (by omega)
 . exact hb
 . exact propB_ok.mpr ⟨isItE_self _ _ (by omega), hc.2.1⟩
theorem lyx_okn {gl : Gl} (hT : GlTo gl9 gl) (p : Pts) (j : Nat) (d : Int) (hc : lqC p j d) (hb : ((unitR (p.n j) (p.f j)).2 != 0) = false) (h0 : p.n j = 0) (hf : fstN (badJ (elI (lkX p j d)) (lgG (lkX p j d).length (elI (lkX p j d))) (lkX p j d).length) (lkX p j d).length = none) (w : World) (vals : List Value) (hG : GlobOk gl w) (ha : ArgsOk w [.inr (itE (p.n j) (p.f j)), .inl (.int .i64 d)] vals) : LRet Tryd.prog 17 vals true [.inr (wdE (lkA p j d)), .inr (ntE (lkM p j d)), .inl (.int .i64 0)] w := by
 have hn := hc.1
 have d0 := hc.2.2.1
 have d1 := hc.2.2.2
 have hX := lkX_len p j d hn
 obtain ⟨u1, u2⟩ := lkUn_of (d := d) (p := p) (j := j) (by simpa using hb) hc.2.1 d0 (by omega)
 refine fn_ok (envLy_ok hT p j d [19]) (fuel := 1000) (d := 30) (plan := []) (orc := [false]) (fls := [[], [true]]) (l := [(pre (propB (isItE (itsE (lkX p j d)) (lkX p j d).length (elI (lkX p j d)) /\ (lkX p j d).length <= 1000000 /\ (∀ k, k < (lkX p j d).length -> wfIt (elI (lkX p j d) k)) /\ mayU (lkX p j d).length (elI (lkX p j d)) = true /\ fstN (badJ (elI (lkX p j d)) (lgG (lkX p j d).length (elI (lkX p j d))) (lkX p j d).length) (lkX p j d).length = none)), true), (pre (propB (isItE (rawI 2 (rawI2 d)) (p.n j + 2) (stbF d (p.f j)) /\ p.n j + 2 <= 1000000 /\ cstOk (p.n j + 2) (stbF d (p.f j)))), true), (pre (decide ((itE (p.n j) (p.f j)).n = 0)), true), (pre (inI (16777216 + 8 * d)), true), (pre (inI (8 * d)), true), ((unitR (p.n j) (p.f j)).2 != 0, false), (pre (propB (isItE (itE (p.n j) (p.f j)) (p.n j) (p.f j) /\ ∀ i, i < p.n j -> wfIt (p.f j i))), true)]) (tr := []) (by kernel_rfl) ?_ Tryd.func17 w vals hG ha fun t ht => by cases ht
 refine qF ?_ ?_ ?_ ?_ <| qA ?_ <| qA ?_ <| qA ?_ <| qZ
 . exact propB_ok.mpr ⟨isIt_its _ (by omega), by omega, lkX_wf hc, u2, hf⟩
 . exact propB_ok.mpr ⟨(by have := isIt_stb0 d (p.f j); rw [h0]; exact this), by omega, u1⟩
 . exact decide_eq_true h0
 . exact ob_inI (by omega)
 . exact ob_inI (by omega)
 . exact hb
 . exact propB_ok.mpr ⟨isItE_self _ _ (by omega), hc.2.1⟩
theorem lyx_far {gl : Gl} (hT : GlTo gl9 gl) (p : Pts) (j : Nat) (d : Int) (hc : lqC p j d) (hb : ((unitR (p.n j) (p.f j)).2 != 0) = false) (h0 : 0 < p.n j) (hf : fstN (badJ (elI (lkX p j d)) (lgG (lkX p j d).length (elI (lkX p j d))) (lkX p j d).length) (lkX p j d).length ≠ none) (w : World) (vals : List Value) (hG : GlobOk gl w) (ha : ArgsOk w [.inr (itE (p.n j) (p.f j)), .inl (.int .i64 d)] vals) : LRet Tryd.prog 17 vals false [.inl (.tuple #[.slice none 0 0, .slice none 0 0, .int .i64 33])] w := by
 have hn := hc.1
 have d0 := hc.2.2.1
 have d1 := hc.2.2.2
 have hX := lkX_len p j d hn
 obtain ⟨u1, u2⟩ := lkUn_of (d := d) (p := p) (j := j) (by simpa using hb) hc.2.1 d0 (by omega)
 refine fn_ok (envLyF_ok hT p j d []) (fuel := 1000) (d := 30) (plan := []) (orc := [false]) (fls := [[], [true]]) (l := [(pre (propB (isItE (itsE (lkX p j d)) (lkX p j d).length (elI (lkX p j d)) /\ (lkX p j d).length <= 1000000 /\ (∀ k, k < (lkX p j d).length -> wfIt (elI (lkX p j d) k)) /\ mayU (lkX p j d).length (elI (lkX p j d)) = true /\ fstN (badJ (elI (lkX p j d)) (lgG (lkX p j d).length (elI (lkX p j d))) (lkX p j d).length) (lkX p j d).length ≠ none)), true), (pre (propB (isItE (rawI (2 + p.n j) (joinE 2 (rawI2 d) (itE (p.n j) (p.f j)).el)) (p.n j + 2) (stbF d (p.f j)) /\ p.n j + 2 <= 1000000 /\ cstOk (p.n j + 2) (stbF d (p.f j)))), true), (pre (decide (2 + p.n j <= maxLen /\ (2 + p.n j) * 72 <= 140737488355328 /\ 0 < p.n j)), true), (pre (inI (16777216 + 8 * d)), true), (pre (inI (8 * d)), true), ((unitR (p.n j) (p.f j)).2 != 0, false), (pre (propB (isItE (itE (p.n j) (p.f j)) (p.n j) (p.f j) /\ ∀ i, i < p.n j -> wfIt (p.f j i))), true)]) (tr := []) (by kernel_rfl) ?_ Tryd.func17 w vals hG ha fun t ht => by cases ht
 refine qF ?_ ?_ ?_ ?_ <| qA ?_ <| qA ?_ <| qA ?_ <| qZ
 . exact propB_ok.mpr ⟨isIt_its _ (by omega), by omega, lkX_wf hc, u2, hf⟩
 . exact propB_ok.mpr ⟨isIt_stb d (p.n j) (p.f j) (by omega), by omega, u1⟩
 . exact ob_app (by omega) (by decide) (by omega)
 . exact ob_inI (by omega)
 . exact ob_inI (by omega)
 . exact hb
 . exact propB_ok.mpr ⟨isItE_self _ _ (by omega), hc.2.1⟩
theorem lyx_farn {gl : Gl} (hT : GlTo gl9 gl) (p : Pts) (j : Nat) (d : Int) (hc : lqC p j d) (hb : ((unitR (p.n j) (p.f j)).2 != 0) = false) (h0 : p.n j = 0) (hf : fstN (badJ (elI (lkX p j d)) (lgG (lkX p j d).length (elI (lkX p j d))) (lkX p j d).length) (lkX p j d).length ≠ none) (w : World) (vals : List Value) (hG : GlobOk gl w) (ha : ArgsOk w [.inr (itE (p.n j) (p.f j)), .inl (.int .i64 d)] vals) : LRet Tryd.prog 17 vals false [.inl (.tuple #[.slice none 0 0, .slice none 0 0, .int .i64 33])] w := by
 have hn := hc.1
 have d0 := hc.2.2.1
 have d1 := hc.2.2.2
 have hX := lkX_len p j d hn
 obtain ⟨u1, u2⟩ := lkUn_of (d := d) (p := p) (j := j) (by simpa using hb) hc.2.1 d0 (by omega)
 refine fn_ok (envLyF_ok hT p j d [19]) (fuel := 1000) (d := 30) (plan := []) (orc := [false]) (fls := [[], [true]]) (l := [(pre (propB (isItE (itsE (lkX p j d)) (lkX p j d).length (elI (lkX p j d)) /\ (lkX p j d).length <= 1000000 /\ (∀ k, k < (lkX p j d).length -> wfIt (elI (lkX p j d) k)) /\ mayU (lkX p j d).length (elI (lkX p j d)) = true /\ fstN (badJ (elI (lkX p j d)) (lgG (lkX p j d).length (elI (lkX p j d))) (lkX p j d).length) (lkX p j d).length ≠ none)), true), (pre (propB (isItE (rawI 2 (rawI2 d)) (p.n j + 2) (stbF d (p.f j)) /\ p.n j + 2 <= 1000000 /\ cstOk (p.n j + 2) (stbF d (p.f j)))), true), (pre (decide ((itE (p.n j) (p.f j)).n = 0)), true), (pre (inI (16777216 + 8 * d)), true), (pre (inI (8 * d)), true), ((unitR (p.n j) (p.f j)).2 != 0, false), (pre (propB (isItE (itE (p.n j) (p.f j)) (p.n j) (p.f j) /\ ∀ i, i < p.n j -> wfIt (p.f j i))), true)]) (tr := []) (by kernel_rfl) ?_ Tryd.func17 w vals hG ha fun t ht => by cases ht
 refine qF ?_ ?_ ?_ ?_ <| qA ?_ <| qA ?_ <| qA ?_ <| qZ
 . exact propB_ok.mpr ⟨isIt_its _ (by omega), by omega, lkX_wf hc, u2, hf⟩
 . exact propB_ok.mpr ⟨(by have := isIt_stb0 d (p.f j); rw [h0]; exact this), by omega, u1⟩
 . exact decide_eq_true h0
 . exact ob_inI (by omega)
 . exact ob_inI (by omega)
 . exact hb
 . exact propB_ok.mpr ⟨isItE_self _ _ (by omega), hc.2.1⟩
theorem lay11_yes {gl : Gl} (hT : GlTo gl9 gl) (p : Pts) (j : Nat) (d : Int) (hc : lqC p j d) (hb : badU p j = false) (hf : lkFar p j d = none) (w : World) (vals : List Value) (hG : GlobOk gl w) (ha : ArgsOk w [.inr (itE (p.n j) (p.f j)), .inl (.int .i64 d)] vals) : LRet Tryd.prog 17 vals true [.inr (wdE (lkA p j d)), .inr (ntE (lkM p j d)), .inl (.int .i64 0)] w := by
 by_cases h0 : p.n j = 0
 . exact lyx_okn hT p j d hc hb h0 hf w vals hG ha
 . exact lyx_ok hT p j d hc hb (by omega) hf w vals hG ha
theorem lay11_no {gl : Gl} (hT : GlTo gl9 gl) (p : Pts) (j : Nat) (d : Int) (hc : lqC p j d) (h : (badU p j || (lkFar p j d).isSome) = true) (w : World) (vals : List Value) (hG : GlobOk gl w) (ha : ArgsOk w [.inr (itE (p.n j) (p.f j)), .inl (.int .i64 d)] vals) : LRet Tryd.prog 17 vals false [.inl (.tuple #[.slice none 0 0, .slice none 0 0, .int .i64 (bif badU p j then 1 else 33)])] w := by
 cases hb : badU p j
 . rw [hb, Bool.false_or] at h
   have hf : lkFar p j d ≠ none := fun e => by rw [e] at h; cases h
   by_cases h0 : p.n j = 0
   . exact lyx_farn hT p j d hc hb h0 hf w vals hG ha
   . exact lyx_far hT p j d hc hb (by omega) hf w vals hG ha
 . exact lyx_bad hT p j d hc hb w vals hG ha
noncomputable def lLyY (p : Pts) (j : Nat) (d : Int) : LTab := lrow 17 fun args => match args with
 | [.inr e, .inl (.int .i64 x)] => some (true, [.inr (wdE (lkA p j d)), .inr (ntE (lkM p j d)), .inl (.int .i64 0)], pre (propB (isItE e (p.n j) (p.f j) /\ x = d /\ lqC p j d /\ badU p j = false /\ lkFar p j d = none)))
 | _ => none
theorem lLyY_ok {gl : Gl} (hT : GlTo gl9 gl) (p : Pts) (j : Nat) (d : Int) : LTabOk Tryd.prog gl (lLyY p j d) := .row fun args tup res h w vals hG ha => by
 split at h
 . rename_i e x
   simp only [qS, qP] at h
   obtain ⟨rfl, rfl, hp⟩ := h
   obtain ⟨he, rfl, hc, h1⟩ := propB_ok.mp hp
   match vals, ha with
   | [u, v], ha => exact lay11_yes hT p j x hc h1.1 h1.2 w [u, v] hG ⟨InB.it ha.1 he, ha.2⟩
   | [], ha => exact ha.elim
   | [_], ha => exact ha.2.elim
   | _ :: _ :: _ :: _, ha => exact ha.2.2.elim
 . cases h
noncomputable def lLyW (p : Pts) (j : Nat) (d : Int) : LTab := lrow 17 fun args => match args with
 | [.inr e, .inl (.int .i64 x)] => some (false, [.inl (.tuple #[.slice none 0 0, .slice none 0 0, .int .i64 (bif badU p j then 1 else 33)])], pre (propB (isItE e (p.n j) (p.f j) /\ x = d /\ lqC p j d /\ (badU p j || (lkFar p j d).isSome) = true)))
 | _ => none
theorem lLyW_ok {gl : Gl} (hT : GlTo gl9 gl) (p : Pts) (j : Nat) (d : Int) : LTabOk Tryd.prog gl (lLyW p j d) := .row fun args tup res h w vals hG ha => by
 split at h
 . rename_i e x
   simp only [qS, qP] at h
   obtain ⟨rfl, rfl, hp⟩ := h
   obtain ⟨he, rfl, hc, h1⟩ := propB_ok.mp hp
   match vals, ha with
   | [u, v], ha => exact lay11_no hT p j x hc h1 w [u, v] hG ⟨InB.it ha.1 he, ha.2⟩
   | [], ha => exact ha.elim
   | [_], ha => exact ha.2.elim
   | _ :: _ :: _ :: _, ha => exact ha.2.2.elim
 . cases h
noncomputable def envLn (gl : Gl) (p : Pts) (t : LTab) : S2.Env := { envk Tryd.prog gl true noT noP t with lit := true, rowE := ptRow p [43] }
theorem envLn_ok {gl : Gl} (p : Pts) {t : LTab} (h : LTabOk Tryd.prog gl t) : CallOk (envLn gl p t) := envk_ok (nw := true) (.none _ _) (.none _ _) h
def lzP : List Nat := [0, 1, 0, 1, 1, 1, 1, 1]
noncomputable def lzC : Code := codeAt (codeOf Tryd.prog 8) (0 :: lzP)
def lzG (p : Pts) (c : Nat) (C : Nat -> Int) (F : List Int) (s : Int) (a b e : LE) (i : Nat) : S2.St := { tmps := [(1, .c 1), (4, .inr (0, 0, none)), (7, .c 2), (8, .inl ([true], .int .i64 s)), (10, .c 3), (11, .c 4), (12, .c 5), (37, .c 0), (38, .inl ([true], .int .i64 (p.P : Int))), (39, .inl ([true], .int .i64 i))], own := ⟨[imZB [nilV, nilV, nilV]], [lPart p, intL false c C, ntE F, a, b, e]⟩, lo := 0, llo := 0, mem := true, orc := [], obl := [] }
abbrev lzS (p : Pts) (c : Nat) (C : Nat -> Int) (F : List Int) (s : Int) (A : List In) (N K : List Int) (i : Nat) : S2.St := lzG p c C F s (wdE A) (ntE N) (ntE K) i
def lzQ (l : List Nat) : Pick := { ts := [1, 4, 7, 8, 10, 11, 12, 37, 38, 39], bs := [0], ls := l, opn := [38, 39] }
def nilZ7 : Nat -> List Value := fun j => inC ((([] : List In)[j]?).getD zI10)
def lzQ0 : Pick := { ts := [1, 4, 7, 8, 10, 11, 12, 37, 38, 39], bs := [0], ls := [0, 1, 2, 3, 4, 5], opn := [38, 39], nil := [(10, 42, 7, nilZ7), (11, 3, 1, nil1), (12, 3, 1, nil1)] }
def lzR (e : Int) : S2.St := { tmps := [(4, .inr (0, 0, none)), (5, .inl ([], .slice none 0 0)), (6, .inl ([true], .int .i64 e))], own := ⟨[imZB [nilW, nilW, nilW]], []⟩, lo := 0, llo := 0, mem := true, orc := [], obl := [] }
def r7a (A B : List In) : LE := raw7 (A.length + B.length) (joinE A.length (wdE A).el (wdE B).el)
theorem app7 (A B : List In) : sameE (r7a A B) (wdE (A ++ B)) := ⟨rfl, rfl, by simp [r7a, raw7, wdE], rfl, rfl, joinE_app (fun i hi => by
   show inC ((A[i]?).getD zI10) = inC (((A ++ B)[i]?).getD zI10)
   rw [List.getElem?_append_left hi]) fun i hi => by
   show inC ((B[i]?).getD zI10) = inC (((A ++ B)[A.length + i]?).getD zI10)
   rw [List.getElem?_append_right (by omega), Nat.add_sub_cancel_left]⟩
theorem lz_ok (gl : Gl) (hT : GlTo gl9 gl) (p : Pts) (c : Nat) (C : Nat -> Int) (F : List Int) (s : Int) (A : List In) (N K : List Int) (i : Nat) (hi : i < p.P) (hP : p.P <= 1000) (d : Int) (hF : (F[i]?).getD 0 = d) (hl : i < F.length) (hc : lqC p i d) (hr : rowG gl (p.uv i) (itE (p.n i) (p.f i))) (hw : badU p i = false /\ lkFar p i d = none) (hA : A.length <= 100000000) (hN : N.length <= 100000000) (hK : K.length <= 100000000) (hA2 : 0 < (lkA p i d).length /\ (lkA p i d).length <= 1000000) (hM2 : 0 < (lkM p i d).length /\ (lkM p i d).length <= 1000000) (w : World) (hG : GlobOk gl w) : S2.Sem (envLn gl p (lLyY p i d)) w 88 lzC (lzS p c C F s A N K i) none (lzG p c C F s (r7a A (lkA p i d)) (r1a N (lkM p i d)) (r1x K (A.length : Int)) (i + 1)) := by
 refine sem_iter (envLn_ok p (lLyY_ok hT p i d)) hG (p := lzQ [0, 1, 2, 11, 12, 10]) (fuel := 1000) [true, false] [(pre (inI ((i : Int) + 1)), true), (pre (decide (N.length + (lkM p i d).length <= maxLen /\ (N.length + (lkM p i d).length) * 8 <= 140737488355328 /\ 0 < (lkM p i d).length)), true), (pre (decide (A.length + (lkA p i d).length <= maxLen /\ (A.length + (lkA p i d).length) * 48 <= 140737488355328 /\ 0 < (lkA p i d).length)), true), (pre (decide (K.length + 1 <= maxLen /\ (K.length + 1) * 8 <= 140737488355328 /\ 0 < 1)), true), (false, false), (pre (propB (isItE (itE (p.n (i : Int).toNat) (p.f (i : Int).toNat)) (p.n i) (p.f i) /\ (F[(i : Int).toNat]?).getD 0 = d /\ lqC p i d /\ badU p i = false /\ lkFar p i d = none)), true), (pre (decide ((i : Int).toNat < F.length)), true), (pre (idxB (i : Int) F.length), true), (pre (rowB gl (p.uv (i : Int).toNat) (itE (p.n (i : Int).toNat) (p.f (i : Int).toNat))), true), (pre (decide ((i : Int).toNat < p.P)), true), (pre (idxB (i : Int) p.P), true), (decide ((i : Int) < (p.P : Int)), true)] (by kernel_rfl) (by kernel_rfl) ?_
 try simp only [qN]
 refine qF ?_ ?_ ?_ ?_ <| qF ?_ ?_ ?_ ?_ <| qF ?_ ?_ ?_ ?_ <| qZ
 . exact ob_inI (by omega)
 . exact ob_app (by omega) (by decide) (by omega)
 . exact ob_app (by omega) (by decide) (by omega)
 . exact ob_app (by omega) (by decide) (by decide)
 . rfl
 . exact propB_ok.mpr ⟨isItE_self _ _ (by have := hc.1; omega), hF, hc, hw⟩
 . exact ob_lt (by omega)
 . exact ob_idx (by omega)
 . exact rowB_ok.mpr hr
 . exact ob_lt (by omega)
 . exact ob_idx (by omega)
 . exact ob_yes (by omega)
theorem lz_wrong (gl : Gl) (hT : GlTo gl9 gl) (p : Pts) (c : Nat) (C : Nat -> Int) (F : List Int) (s : Int) (A : List In) (N K : List Int) (i : Nat) (hi : i < p.P) (hP : p.P <= 1000) (d : Int) (hF : (F[i]?).getD 0 = d) (hl : i < F.length) (hc : lqC p i d) (hr : rowG gl (p.uv i) (itE (p.n i) (p.f i))) (hw : (badU p i || (lkFar p i d).isSome) = true) (w : World) (hG : GlobOk gl w) : S2.Sem (envLn gl p (lLyW p i d)) w 88 lzC (lzS p c C F s A N K i) (some none) (lzR (bif badU p i then 1 else 33)) := by
 refine sem_iter (envLn_ok p (lLyW_ok hT p i d)) hG (p := lkQR) (fuel := 1000) [true, true] [((bif badU p i then (1 : Int) else 33) != 0, true), (pre (propB (isItE (itE (p.n (i : Int).toNat) (p.f (i : Int).toNat)) (p.n i) (p.f i) /\ (F[(i : Int).toNat]?).getD 0 = d /\ lqC p i d /\ (badU p i || (lkFar p i d).isSome) = true)), true), (pre (decide ((i : Int).toNat < F.length)), true), (pre (idxB (i : Int) F.length), true), (pre (rowB gl (p.uv (i : Int).toNat) (itE (p.n (i : Int).toNat) (p.f (i : Int).toNat))), true), (pre (decide ((i : Int).toNat < p.P)), true), (pre (idxB (i : Int) p.P), true), (decide ((i : Int) < (p.P : Int)), true)] (by kernel_rfl) (by kernel_rfl) ?_
 try simp only [qN]
 refine qF ?_ ?_ ?_ ?_ <| qF ?_ ?_ ?_ ?_ <| qZ
 . cases badU p i <;> rfl
 . exact propB_ok.mpr ⟨isItE_self _ _ (by have := hc.1; omega), hF, hc, hw⟩
 . exact ob_lt (by omega)
 . exact ob_idx (by omega)
 . exact rowB_ok.mpr hr
 . exact ob_lt (by omega)
 . exact ob_idx (by omega)
 . exact ob_yes (by omega)
theorem lz_end (gl : Gl) (p : Pts) (c : Nat) (C : Nat -> Int) (F : List Int) (s : Int) (A : List In) (N K : List Int) (w : World) (hG : GlobOk gl w) : S2.Sem (envLn gl p noL) w 88 lzC (lzS p c C F s A N K p.P) (some (some 0)) (lzS p c C F s A N K p.P) := by
 refine sem_iter (envLn_ok p (.none _ _)) hG (p := lzQ [0, 1, 2, 3, 4, 5]) (fuel := 1000) [false] [(decide ((p.P : Int) < (p.P : Int)), false)] (by kernel_rfl) (by kernel_rfl) ?_
 try simp only [qN]
 refine qA ?_ <| qZ
 . exact ob_no (by omega)
noncomputable def lzA (c : Nat) (p : Pts) : Nat -> List In
 | 0 => []
 | j + 1 => lzA c p j ++ lkA p j (lkd c p j)
theorem lzA_map (c : Nat) (p : Pts) : ∀ j, (lzA c p j).map encZ = lkL c p j
 | 0 => rfl
 | j + 1 => by show (lzA c p j ++ _).map encZ = lkL c p j ++ _; rw [List.map_append, lzA_map c p j]
theorem lzA_len (c : Nat) (p : Pts) (j : Nat) : (lzA c p j).length = (lkL c p j).length := by rw [<- lzA_map, List.length_map]
theorem lzA_may {c : Nat} {p : Pts} (hs : lkSm c p) (hf : lkFr c p) : ∀ j, j <= p.P -> (∀ i, i < j -> wrgU c p i = false) -> ∀ x ∈ lzA c p j, mayB x = true
 | 0, _, _, x, hx => by cases hx
 | j + 1, hj, h, x, hx => by
   have hx : x ∈ lzA c p j ++ lkA p j (lkd c p j) := hx
   rcases List.mem_append.mp hx with hx | hx
   . exact lzA_may hs hf j (by omega) (fun i hi => h i (by omega)) x hx
   . obtain ⟨hu, hfar⟩ := lkF_none (h j (by omega))
     obtain ⟨d0, d1⟩ := lkd_rng hs hf j (by omega)
     obtain ⟨u1, u2⟩ := lkUn_of hu (hs.wf j (by omega)) d0 (by omega)
     exact layA_may u2 hfar _ (Nat.le_refl _) x hx
theorem frW_ok {c : Nat} {p : Pts} (hc : c <= 1000000) (hP : p.P <= 100) (h : fstN (frB p) p.P = none) : ∀ j, j <= p.P -> frW p c j = c + sumF p j
 | 0, _ => by show (c : Int) = c + 0; omega
 | j + 1, hj => by
   have hr := sumF_rng (frames_ok h) j (by omega)
   have hj2 := frames_ok h j (by omega)
   show arZ .add .i64 (frW p c j) (p.fr j) = c + (sumF p j + p.fr j)
   rw [frW_ok hc hP h j (by omega), arZ_eq]
   show IntKind.i64.wrap (c + sumF p j + p.fr j) = _
   rw [IntKind.wrap_i64]; omega
noncomputable abbrev lzT (c : Nat) (C : Nat -> Int) (p : Pts) (j : Nat) : S2.St := lzS p c C (frL p c p.P) (frW p c p.P) (lzA c p j) (lkN c p j) (lkK c p j) j
theorem lz_step {gl : Gl} (hT : GlTo gl9 gl) (c : Nat) (C : Nat -> Int) (p : Pts) (hs : lkSm c p) (hf : lkFr c p) (hr : ptsOk gl p) (h0 : fstN (frB p) p.P = none) (j : Nat) (hj : j < p.P) (hb : wrgU c p j = false) (w : World) (hG : GlobOk gl w) : S2.Sem (envLn gl p noL) w 88 lzC (lzT c C p j) none (lzT c C p (j + 1)) := by
 obtain ⟨hu, hfar⟩ := lkF_none hb
 obtain ⟨d0, d1⟩ := lkd_rng hs hf j (by omega)
 obtain ⟨l1, l2, l3⟩ := lkL_len hs j (by omega)
 have hn := hs.n j hj
 have hP := hs.P
 obtain ⟨k1, k2, k3⟩ := lkA_len p j (lkd c p j) hn
 have hA := lzA_len c p j
 have hFj : ((frL p c p.P)[j]?).getD 0 = lkd c p j := by rw [frL_get p c p.P j hj, frW_ok hs.c hP h0 j (by omega), <- lkd_sum hf.fr j (by omega)]
 have hbu : badU p j = false := by unfold badU; rw [hu]; rfl
 have key := lz_ok gl hT p c C (frL p c p.P) (frW p c p.P) (lzA c p j) (lkN c p j) (lkK c p j) j hj (by omega) (lkd c p j) hFj (by rw [frL_len]; exact hj) ⟨hn, hs.wf j hj, d0, d1⟩ (hr j hj) ⟨hbu, hfar⟩ (by omega) (by omega) (by omega) ⟨by omega, by omega⟩ ⟨by omega, by omega⟩ w hG
 refine key.same rfl rfl ⟨.refl _, .refl _, .refl _, app7 _ _, app1 _ _, ?_, trivial⟩ rfl
 have := app1x (lkK c p j) ((lzA c p j).length : Int)
 rw [hA] at this ⊢
 exact this
theorem lz_bad {gl : Gl} (hT : GlTo gl9 gl) (c : Nat) (C : Nat -> Int) (p : Pts) (hs : lkSm c p) (hf : lkFr c p) (hr : ptsOk gl p) (h0 : fstN (frB p) p.P = none) (j : Nat) (hj : j < p.P) (hb : wrgU c p j = true) (w : World) (hG : GlobOk gl w) : S2.Sem (envLn gl p noL) w 88 lzC (lzT c C p j) (some none) (lzR (bif badU p j then 1 else 33)) := by
 obtain ⟨d0, d1⟩ := lkd_rng hs hf j (by omega)
 have hn := hs.n j hj
 have hP := hs.P
 have hFj : ((frL p c p.P)[j]?).getD 0 = lkd c p j := by rw [frL_get p c p.P j hj, frW_ok hs.c hP h0 j (by omega), <- lkd_sum hf.fr j (by omega)]
 exact lz_wrong gl hT p c C (frL p c p.P) (frW p c p.P) (lzA c p j) (lkN c p j) (lkK c p j) j hj (by omega) (lkd c p j) hFj (by rw [frL_len]; exact hj) ⟨hn, hs.wf j hj, d0, d1⟩ (hr j hj) hb w hG
theorem lz_all {gl : Gl} (hT : GlTo gl9 gl) (c : Nat) (C : Nat -> Int) (p : Pts) (hs : lkSm c p) (hf : lkFr c p) (hr : ptsOk gl p) (h0 : fstN (frB p) p.P = none) (h : fstN (wrgU c p) p.P = none) (w : World) (hG : GlobOk gl w) : S2.Sem (envLn gl p noL) w 88 (.loop lzC) (lzT c C p 0) (some (some 0)) (lzT c C p p.P) :=
 sem_loop (E := envLn gl p noL) (w0 := base0 w) (nb := 0) (nl := 0) (n := 88) (c := lzC) (x := some (some 0)) (s' := lzT c C p p.P) (lzT c C p) p.P (by simp) (fun j hj => lz_step hT c C p hs hf hr h0 j hj (fst_none h j hj) w hG) (lz_end gl p c C _ _ _ _ _ w hG)
theorem lz_err {gl : Gl} (hT : GlTo gl9 gl) (c : Nat) (C : Nat -> Int) (p : Pts) (hs : lkSm c p) (hf : lkFr c p) (hr : ptsOk gl p) (h0 : fstN (frB p) p.P = none) (j : Nat) (h : fstN (wrgU c p) p.P = some j) (w : World) (hG : GlobOk gl w) : S2.Sem (envLn gl p noL) w 88 (.loop lzC) (lzT c C p 0) (some none) (lzR (bif badU p j then 1 else 33)) := by
 obtain ⟨h1, h2, h3⟩ := fst_some h
 exact sem_loop (E := envLn gl p noL) (w0 := base0 w) (nb := 0) (nl := 0) (n := 88) (c := lzC) (x := some none) (s' := lzR (bif badU p j then 1 else 33)) (lzT c C p) j (by simp) (fun i hi => lz_step hT c C p hs hf hr h0 i (by omega) (h3 i hi) w hG) (lz_bad hT c C p hs hf hr h0 j h1 h2 w hG)
theorem lkD_dat (c : Nat) (C : Nat -> Int) (p : Pts) : ∀ j, lkD c C p j = datL c C (lkd c p j) /\ (c : Int) <= lkd c p j
 | 0 => by
   refine ⟨?_, Int.le_refl _⟩
   show celL c C = celL c C ++ List.replicate ((c : Int) - c).toNat 0
   rw [show ((c : Int) - c).toNat = 0 by omega]; simp
 | j + 1 => by
   obtain ⟨h1, h2⟩ := lkD_dat c C p j
   have e : (lkd c p (j + 1)) = lkd c p j + (p.fr j).toNat := rfl
   refine ⟨?_, by rw [e]; omega⟩
   show lkD c C p j ++ List.replicate (p.fr j).toNat 0 = _
   rw [h1, e]
   unfold datL
   rw [List.append_assoc, List.replicate_append_replicate]
   congr 2
   omega
noncomputable def lwT (p : Pts) (c : Nat) (C : Nat -> Int) (A : List In) : LTab := orL (lFrm p c) (orL (lCs p) (orL (lAl A) (lDat c C)))
theorem lwT_ok {gl : Gl} (hE : GlTo encGl gl) (p : Pts) (c : Nat) (C : Nat -> Int) (A : List In) : LTabOk Tryd.prog gl (lwT p c C A) := (lFrm_ok p c).or ((lCs_ok p).or ((ltab_to (lAl_ok A) hE).or (lDat_ok c C)))
theorem lw_size {gl : Gl} (hE : GlTo encGl gl) (p : Pts) (c : Nat) (C : Nat -> Int) (hP : p.P <= 1000) (hz : csZ p (c : Int) (frW p c p.P) ≠ 0) (w : World) (vals : List Value) (hG : GlobOk gl w) (ha : ArgsOk w [.inr (lPart p), .inr (intL false c C)] vals) : LRet Tryd.prog 8 vals false (lkNo (csZ p (c : Int) (frW p c p.P))) w := by
 refine fn_ok (envLn_ok p (lwT_ok hE p c C (lzA c p p.P))) (fuel := 1000) (d := 30) (plan := []) (orc := [true]) (fls := [[], []]) (l := [(csZ p (c : Int) (frW p c p.P) != 0, true), (pre (propB (isPt (lPart p) p /\ p.P <= 1000)), true), (pre (propB (isPt (lPart p) p /\ (c : Int) = c /\ p.P <= 1000)), true)]) (tr := []) (by kernel_rfl) ?_ Tryd.func8 w vals hG ha fun t ht => by cases ht
 refine qA ?_ <| qA ?_ <| qA ?_ <| qZ
 . simpa using hz
 . exact propB_ok.mpr ⟨isPt_self _ _ p, hP⟩
 . exact propB_ok.mpr ⟨isPt_self _ _ p, rfl, hP⟩
theorem lw_err {gl : Gl} (hE : GlTo encGl gl) (p : Pts) (c : Nat) (C : Nat -> Int) (hP : p.P <= 1000) (hz : csZ p (c : Int) (frW p c p.P) = 0) (e : Int) (hs : ∀ w, GlobOk gl w -> S2.Sem (envLn gl p noL) w 88 (.loop lzC) (lzT c C p 0) (some none) (lzR e)) (w : World) (vals : List Value) (hG : GlobOk gl w) (ha : ArgsOk w [.inr (lPart p), .inr (intL false c C)] vals) : LRet Tryd.prog 8 vals false (lkNo e) w := by
 refine fn_ok (envLn_ok p (lwT_ok hE p c C (lzA c p p.P))) (fuel := 1000) (d := 30) (plan := [⟨lzP, lzQ0, some none, lzR e⟩]) (orc := [false]) (fls := [[], []]) (l := [(csZ p (c : Int) (frW p c p.P) != 0, false), (pre (propB (isPt (lPart p) p /\ p.P <= 1000)), true), (pre (propB (isPt (lPart p) p /\ (c : Int) = c /\ p.P <= 1000)), true)]) (tr := [⟨.loop lzC, lzT c C p 0, some none, lzR e⟩]) (by kernel_rfl) ?_ Tryd.func8 w vals hG ha fun t ht => by (
   obtain rfl := List.mem_singleton.mp ht
   exact hs w hG)
 refine qA ?_ <| qA ?_ <| qA ?_ <| qZ
 . rw [hz]; rfl
 . exact propB_ok.mpr ⟨isPt_self _ _ p, hP⟩
 . exact propB_ok.mpr ⟨isPt_self _ _ p, rfl, hP⟩
theorem lw_ok {gl : Gl} (hE : GlTo encGl gl) (p : Pts) (c : Nat) (C : Nat -> Int) (hP : p.P <= 1000) (hz : csZ p (c : Int) (frW p c p.P) = 0) (hd1 : (c : Int) <= frW p c p.P) (hd2 : frW p c p.P <= 1000000) (hm : ∀ x ∈ lzA c p p.P, mayB x = true) (hl : (lzA c p p.P).length <= 262144) (hs : ∀ w, GlobOk gl w -> S2.Sem (envLn gl p noL) w 88 (.loop lzC) (lzT c C p 0) (some (some 0)) (lzT c C p p.P)) (w : World) (vals : List Value) (hG : GlobOk gl w) (ha : ArgsOk w [.inr (lPart p), .inr (intL false c C)] vals) : LRet Tryd.prog 8 vals true [.st [.inr (w3E ((lzA c p p.P).map encZ)), .inr (ntE (datL c C (frW p c p.P))), .inr (ntE (lkK c p p.P))], .inr (ntE (lkN c p p.P)), .inl (.int .i64 0)] w := by
 refine fn_ok (envLn_ok p (lwT_ok hE p c C (lzA c p p.P))) (fuel := 1000) (d := 30) (plan := [⟨lzP, lzQ0, some (some 0), lzT c C p p.P⟩]) (orc := [false, false]) (fls := [[], []]) (l := [(pre (propB (isInts (intL false c C) c C /\ (c : Int) <= frW p c p.P /\ frW p c p.P <= 1000000)), true), (pre (propB (isWd (wdE (lzA c p p.P)) (lzA c p p.P) /\ (lzA c p p.P).length <= 1000000000 /\ ∀ x ∈ lzA c p p.P, mayB x = true)), true), (decide (((lzA c p p.P).length : Int) > 262144), false), (csZ p (c : Int) (frW p c p.P) != 0, false), (pre (propB (isPt (lPart p) p /\ p.P <= 1000)), true), (pre (propB (isPt (lPart p) p /\ (c : Int) = c /\ p.P <= 1000)), true)]) (tr := [⟨.loop lzC, lzT c C p 0, some (some 0), lzT c C p p.P⟩]) (by kernel_rfl) ?_ Tryd.func8 w vals hG ha fun t ht => by (
   obtain rfl := List.mem_singleton.mp ht
   exact hs w hG)
 refine qF ?_ ?_ ?_ ?_ <| qA ?_ <| qA ?_ <| qZ
 . exact propB_ok.mpr ⟨isInts_in c C, hd1, hd2⟩
 . exact propB_ok.mpr ⟨isWd_self _, by omega, hm⟩
 . exact ob_no (by omega)
 . rw [hz]; rfl
 . exact propB_ok.mpr ⟨isPt_self _ _ p, hP⟩
 . exact propB_ok.mpr ⟨isPt_self _ _ p, rfl, hP⟩
theorem link_ret {gl : Gl} (hT : GlTo gl9 gl) (hE : GlTo encGl gl) (c : Nat) (C : Nat -> Int) (p : Pts) (hs : lkSm c p) (hr : ptsOk gl p) (w : World) (vals : List Value) (hG : GlobOk gl w) (ha : ArgsOk w [.inr (lPart p), .inr (intL false c C)] vals) :
   (lkErr c p = 0 -> LRet Tryd.prog 8 vals true (lkYes c C p) w) /\ (lkErr c p ≠ 0 -> LRet Tryd.prog 8 vals false (lkNo (lkErr c p)) w) := by
 have hP := hs.P
 have hc := hs.c
 have hP' : p.P <= 1000 := by omega
 by_cases e0 : p.P < 1 \/ 8 < p.P
 . have e : lkErr c p = 29 := by unfold lkErr; rw [if_pos e0]
   have ez : csZ p (c : Int) (frW p c p.P) = 29 := by unfold csZ; rw [if_pos e0]
   rw [e]; refine ⟨fun h => absurd h (by decide), fun _ => ?_⟩
   have := lw_size hE p c C hP' (by rw [ez]; decide) w vals hG ha
   rw [ez] at this; exact this
 by_cases a3 : 200 < c
 . have e : lkErr c p = 30 := by unfold lkErr; rw [if_neg e0, if_pos a3]
   have ez : csZ p (c : Int) (frW p c p.P) = 30 := by unfold csZ; rw [if_neg e0, if_pos (by omega)]
   rw [e]; refine ⟨fun h => absurd h (by decide), fun _ => ?_⟩
   have := lw_size hE p c C hP' (by rw [ez]; decide) w vals hG ha
   rw [ez] at this; exact this
 cases a4 : fstN (frB p) p.P with
 | some j =>
   have e : lkErr c p = 31 := by unfold lkErr; rw [if_neg e0, if_neg a3, if_pos (.inl (by rw [a4]; rfl))]
   have ez : csZ p (c : Int) (frW p c p.P) = 31 := by unfold csZ; rw [if_neg e0, if_neg (by omega), if_pos (.inl (by rw [a4]; rfl))]
   rw [e]; refine ⟨fun h => absurd h (by decide), fun _ => ?_⟩
   have := lw_size hE p c C hP' (by rw [ez]; decide) w vals hG ha
   rw [ez] at this; exact this
 | none =>
   have hfr := frames_ok a4
   have hW := frW_ok hc hP a4 p.P (Nat.le_refl _)
   by_cases a5 : 4096 < (c : Int) + sumF p p.P
   . have e : lkErr c p = 31 := by unfold lkErr; rw [if_neg e0, if_neg a3, if_pos (.inr a5)]
     have ez : csZ p (c : Int) (frW p c p.P) = 31 := by unfold csZ; rw [if_neg e0, if_neg (by omega), if_pos (.inr (by rw [hW]; exact a5))]
     rw [e]; refine ⟨fun h => absurd h (by decide), fun _ => ?_⟩
     have := lw_size hE p c C hP' (by rw [ez]; decide) w vals hG ha
     rw [ez] at this; exact this
   have hF : lkFr c p := ⟨hfr, by omega⟩
   have e1 : ¬ ((fstN (frB p) p.P).isSome \/ 4096 < (c : Int) + sumF p p.P) := by rw [a4]; rintro (h | h); exact absurd h (by decide); exact a5 h
   have ez : csZ p (c : Int) (frW p c p.P) = 0 := by unfold csZ; rw [if_neg e0, if_neg (by omega), if_neg (by rw [hW]; exact e1)]
   cases a6 : fstN (wrgU c p) p.P with
   | some j =>
     have e : lkErr c p = bif badU p j then 1 else 33 := by unfold lkErr; rw [if_neg e0, if_neg a3, if_neg e1, a6]
     have e2 : (bif badU p j then 1 else 33 : Int) ≠ 0 := by cases badU p j <;> decide
     rw [e]
     exact ⟨fun h => absurd h e2, fun _ => lw_err hE p c C hP' ez _ (fun w hG => lz_err hT c C p hs hF hr a4 j a6 w hG) w vals hG ha⟩
   | none =>
     have e : lkErr c p = 0 := by unfold lkErr; rw [if_neg e0, if_neg a3, if_neg e1, a6]
     refine ⟨fun _ => ?_, fun h => absurd e h⟩
     obtain ⟨l1, _, _⟩ := lkL_len hs p.P (Nat.le_refl _)
     have hsr := sumF_rng hfr p.P (Nat.le_refl _)
     have hA := lzA_len c p p.P
     have key := lw_ok hE p c C hP' ez (by rw [hW]; omega) (by rw [hW]; omega) (lzA_may hs hF p.P (Nat.le_refl _) fun i hi => fst_none a6 i hi) (by omega) (fun w hG => lz_all hT c C p hs hF hr a4 a6 w hG) w vals hG ha
     rw [lzA_map, hW, <- lkd_sum hfr p.P (Nat.le_refl _), <- (lkD_dat c C p p.P).1] at key
     exact key
theorem lLkY_ok {gl : Gl} (hT : GlTo gl9 gl) (hE : GlTo encGl gl) (c : Nat) (C : Nat -> Int) (p : Pts) : LTabOk Tryd.prog gl (lLkY gl c C p) := .row fun args tup res h w vals hG ha => by
 split at h
 . rename_i e e'
   simp only [qS, qP] at h
   obtain ⟨rfl, rfl, hp⟩ := h
   obtain ⟨⟨he, he2, hr, hs⟩, hz⟩ := propB_ok.mp hp
   match vals, ha with
   | [u, v], ha => exact (link_ret hT hE c C p hs hr w [u, v] hG ⟨InB.pt ha.1 he _, InB.ints10 ha.2.1 he2, trivial⟩).1 hz
   | [], ha => exact ha.elim
   | [_], ha => exact ha.2.elim
   | _ :: _ :: _ :: _, ha => exact ha.2.2.elim
 . cases h
theorem lLkN_ok {gl : Gl} (hT : GlTo gl9 gl) (hE : GlTo encGl gl) (c : Nat) (C : Nat -> Int) (p : Pts) : LTabOk Tryd.prog gl (lLkN gl c C p) := .row fun args tup res h w vals hG ha => by
 split at h
 . rename_i e e'
   simp only [qS, qP] at h
   obtain ⟨rfl, rfl, hp⟩ := h
   obtain ⟨⟨he, he2, hr, hs⟩, hz⟩ := propB_ok.mp hp
   match vals, ha with
   | [u, v], ha => exact (link_ret hT hE c C p hs hr w [u, v] hG ⟨InB.pt ha.1 he _, InB.ints10 ha.2.1 he2, trivial⟩).2 hz
   | [], ha => exact ha.elim
   | [_], ha => exact ha.2.elim
   | _ :: _ :: _ :: _, ha => exact ha.2.2.elim
 . cases h
noncomputable def envSb (gl : Gl) : S2.Env := { envk Tryd.prog gl false noT noP noL with lit := true }
theorem envSb_ok (gl : Gl) : CallOk (envSb gl) := envk_ok (nw := false) (.none _ _) (.none _ _) (.none _ _)
theorem stubE_same (x : Int) : sameE (rawI 2 (stubA x)) (stubE x) := ⟨rfl, rfl, rfl, rfl, rfl, fun i hi => by
 have hi : i < 2 := hi
 match i with
 | 0 => rfl
 | 1 => rfl
 | _ + 2 => omega⟩
theorem stub_ret (gl : Gl) (x : Int) (w : World) (vals : List Value) (hG : GlobOk gl w) (ha : ArgsOk w [.inl (.int .i64 x)] vals) : LRet Tryd.prog 13 vals false [.inr (stubE x)] w :=
 LRet.sameL1 (fn_ok (envSb_ok gl) (fuel := 1000) (d := 30) (plan := []) (orc := []) (fls := [[true]]) (res := [.inr (rawI 2 (stubA x))]) (l := []) (tr := []) (by kernel_rfl) (fun _ h => by cases h) Tryd.func13 w vals hG ha fun t ht => by cases ht) (stubE_same x)
theorem lStub_ok {gl : Gl} : LTabOk Tryd.prog gl lStub := .row fun args tup res h w vals hG ha => by
 split at h
 . rename_i x
   simp only [qS, qP] at h
   obtain ⟨rfl, rfl, hp⟩ := h
   exact stub_ret gl x w vals hG ha
 . cases h
end Go.Proofs.YtilljoemebbnjaaDoor
