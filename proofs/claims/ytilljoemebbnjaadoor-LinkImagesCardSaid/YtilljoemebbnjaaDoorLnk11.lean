/- Layer 11: what link.Link calls: frames, checkSizes, enc.All, data, lay. -/
import Derived.Test.YtilljoemebbnjaaDoorK06
import Derived.Test.YtilljoemebbnjaaDoorK11
import Derived.Test.YtilljoemebbnjaaDoorLaw11
set_option linter.unusedVariables false
set_option linter.unusedSimpArgs false
namespace Go.Proofs.YtilljoemebbnjaaDoor
open Go.RowKit Sim S2
abbrev lPart (p : Pts) : LE := ptE 50 false p
theorem arZ_succ (i : Nat) (h : i <= 1000000) : arZ .add .i64 (i : Int) 1 = ((i + 1 : Nat) : Int) := by
 rw [arZ_eq]
 show IntKind.i64.wrap ((i : Int) + 1) = _
 rw [IntKind.wrap_i64]; omega
noncomputable def envFr (gl : Gl) : S2.Env := { envk Tryd.prog gl false noT noP noL with lit := true }
theorem envFr_ok (gl : Gl) : CallOk (envFr gl) := envk_ok (nw := false) (.none _ _) (.none _ _) (.none _ _)
noncomputable def frW (p : Pts) (x : Int) : Nat -> Int
 | 0 => x
 | j + 1 => arZ .add .i64 (frW p x j) (p.fr j)
noncomputable def frL (p : Pts) (x : Int) : Nat -> List Int
 | 0 => []
 | j + 1 => frL p x j ++ [frW p x j]
theorem frL_len (p : Pts) (x : Int) : ∀ j, (frL p x j).length = j
 | 0 => rfl
 | j + 1 => by show (frL p x j ++ [_]).length = j + 1; rw [List.length_append, frL_len p x j]; rfl
theorem frL_get (p : Pts) (x : Int) : ∀ j i, i < j -> ((frL p x j)[i]?).getD 0 = frW p x i
 | 0, i, h => absurd h (Nat.not_lt_zero _)
 | j + 1, i, h => by
   have hl := frL_len p x j
   show ((frL p x j ++ [frW p x j])[i]?).getD 0 = _
   by_cases e : i < j
   . rw [List.getElem?_append_left (by omega)]; exact frL_get p x j i e
   . obtain rfl : i = j := by omega
     rw [List.getElem?_append_right (by omega), hl, Nat.sub_self]; rfl
def endB (s : Int) : S2.Blk := ⟨[.inl ([true], .int .i64 s)], 3, .cells⟩
def frP : List Nat := [0, 1, 0, 1, 1, 1, 1]
noncomputable def frC : Code := codeAt (codeOf Tryd.prog 15) (0 :: frP)
def frSe (p : Pts) (s : Int) (e : LE) (i : Int) : S2.St := { tmps := [(6, .inr (0, 0, none)), (7, .fn 26 [] [.a 0 0]), (8, .c 1), (13, .c 0), (14, .inl ([true], .int .i64 (p.P : Int))), (15, .inl ([true], .int .i64 i))], own := ⟨[endB s], [lPart p, e]⟩, lo := 0, llo := 0, mem := true, orc := [], obl := [] }
abbrev frS (p : Pts) (s : Int) (L : List Int) (i : Nat) : S2.St := frSe p s (ntE L) (i : Int)
def frQ (k : Nat) : Pick := { ts := [6, 7, 8, 13, 14, 15], bs := [0], ls := [0, k], opn := [14, 15], opb := [0] }
def frQ0 : Pick := { ts := [6, 7, 8, 13, 14, 15], bs := [0], ls := [0, 1], opn := [14, 15], opb := [0], nil := [(8, 3, 1, nil1)] }
theorem fr_0 (gl : Gl) (p : Pts) (s : Int) (L : List Int) (i : Nat) (hi : i < p.P) (hL : L.length <= 1000000) (w : World) (hG : GlobOk gl w) : S2.Sem (envFr gl) w 29 frC (frS p s L i) none (frSe p (arZ .add .i64 s (p.fr i)) (r1x L s) (arZ .add .i64 (i : Int) 1)) := by
 refine sem_iter (envFr_ok gl) hG (p := frQ 3) (fuel := 1000) [true] [(pre (decide (L.length + 1 <= maxLen /\ (L.length + 1) * 8 <= 140737488355328 /\ 0 < 1)), true), (pre (decide ((i : Int).toNat < p.P)), true), (pre (idxB (i : Int) p.P), true), (decide ((i : Int) < (p.P : Int)), true)] (by kernel_rfl) (by kernel_rfl) ?_
 try simp only [qN]
 refine qF ?_ ?_ ?_ ?_ <| qZ
 . exact ob_app (by omega) (by decide) (by decide)
 . exact ob_lt (by omega)
 . exact ob_idx (by omega)
 . exact ob_yes (by omega)
theorem fr_end (gl : Gl) (p : Pts) (s : Int) (L : List Int) (w : World) (hG : GlobOk gl w) : S2.Sem (envFr gl) w 29 frC (frS p s L p.P) (some (some 0)) (frS p s L p.P) := by
 refine sem_iter (envFr_ok gl) hG (p := frQ 1) (fuel := 1000) [false] [(decide ((p.P : Int) < (p.P : Int)), false)] (by kernel_rfl) (by kernel_rfl) ?_
 try simp only [qN]
 refine qA ?_ <| qZ
 . exact ob_no (by omega)
theorem fr_all (gl : Gl) (p : Pts) (x : Int) (hP : p.P <= 1000) (w : World) (hG : GlobOk gl w) : S2.Sem (envFr gl) w 29 (.loop frC) (frS p x [] 0) (some (some 0)) (frS p (frW p x p.P) (frL p x p.P) p.P) :=
 sem_loop (E := envFr gl) (w0 := base0 w) (nb := 0) (nl := 0) (n := 29) (c := frC) (x := some (some 0)) (s' := frS p (frW p x p.P) (frL p x p.P) p.P) (fun i => frS p (frW p x i) (frL p x i) i) p.P (by simp) (fun i hi => by
   have h := fr_0 gl p (frW p x i) (frL p x i) i hi (by rw [frL_len]; omega) w hG
   rw [arZ_succ i (by omega)] at h
   exact h.same rfl rfl ⟨.refl _, app1x _ _, trivial⟩ rfl) (fr_end gl p _ _ w hG)
theorem frames_ret (gl : Gl) (p : Pts) (x : Int) (hP : p.P <= 1000) (w : World) (vals : List Value) (hG : GlobOk gl w) (ha : ArgsOk w [.inr (lPart p), .inl (.int .i64 x)] vals) : LRet Tryd.prog 15 vals true [.inr (ntE (frL p x p.P)), .inl (.int .i64 (frW p x p.P))] w := by
 refine fn_ok (envFr_ok gl) (fuel := 1000) (d := 30) (plan := [⟨frP, frQ0, some (some 0), frS p (frW p x p.P) (frL p x p.P) p.P⟩]) (orc := []) (fls := [[], [true]]) (l := []) (tr := [⟨.loop frC, frS p x [] 0, some (some 0), frS p (frW p x p.P) (frL p x p.P) p.P⟩]) (by kernel_rfl) (fun _ h => by cases h) Tryd.func15 w vals hG ha fun t ht => ?_
 obtain rfl := List.mem_singleton.mp ht
 exact fr_all gl p x hP w hG
noncomputable def lFrm (p : Pts) (x : Int) : LTab := lrow 15 fun args => match args with
 | [.inr e, .inl (.int .i64 y)] => some (true, [.inr (ntE (frL p x p.P)), .inl (.int .i64 (frW p x p.P))], pre (propB (isPt e p /\ y = x /\ p.P <= 1000)))
 | _ => none
theorem lFrm_ok {gl : Gl} (p : Pts) (x : Int) : LTabOk Tryd.prog gl (lFrm p x) := .row fun args tup res h w vals hG ha => by
 split at h
 . rename_i e y
   simp only [qS, qP] at h
   obtain ⟨rfl, rfl, hp⟩ := h
   obtain ⟨he, rfl, hP⟩ := propB_ok.mp hp
   match vals, ha with
   | [u, v], ha => exact frames_ret gl p y hP w [u, v] hG ⟨InB.pt ha.1 he _, ha.2⟩
   | [], ha => exact ha.elim
   | [_], ha => exact ha.2.elim
   | _ :: _ :: _ :: _, ha => exact ha.2.2.elim
 . cases h
def csP : List Nat := [0, 1, 0, 1, 1, 1]
noncomputable def csC : Code := codeAt (codeOf Tryd.prog 16) (0 :: csP)
noncomputable def envCs (gl : Gl) : S2.Env := envk Tryd.prog gl true noT noP noL
theorem envCs_ok (gl : Gl) : CallOk (envCs gl) := envk_ok (nw := true) (.none _ _) (.none _ _) (.none _ _)
def csS (p : Pts) (s : Int) (i : Nat) : S2.St := { tmps := [(2, .inl ([true], .int .i64 s)), (19, .c 0), (20, .inl ([true], .int .i64 (p.P : Int))), (21, .inl ([true], .int .i64 i))], own := ⟨[], [lPart p]⟩, lo := 0, llo := 0, mem := true, orc := [], obl := [] }
def csQ : Pick := { ts := [2, 19, 20, 21], bs := [], ls := [0], opn := [21] }
def csQR : Pick := { ts := [6], bs := [], ls := [] }
def csR (e : Int) : S2.St := { tmps := [(6, .inl ([], .int .i64 e))], own := ⟨[], []⟩, lo := 0, llo := 0, mem := true, orc := [], obl := [] }
theorem cs_0 (gl : Gl) (p : Pts) (s : Int) (i : Nat) (hi : i < p.P) (hP : p.P <= 1000) (h0 : ¬ p.fr i < 0) (h1 : ¬ p.fr i > 250) (w : World) (hG : GlobOk gl w) : S2.Sem (envCs gl) w 36 csC (csS p s i) none (csS p s (i + 1)) := by
 refine sem_iter (envCs_ok gl) hG (p := csQ) (fuel := 1000) [true, false, false] [(pre (inI ((i : Int) + 1)), true), (decide (p.fr (i : Int).toNat > 250), false), (decide (p.fr (i : Int).toNat < 0), false), (pre (decide ((i : Int).toNat < p.P)), true), (pre (idxB (i : Int) p.P), true), (decide ((i : Int) < (p.P : Int)), true)] (by kernel_rfl) (by kernel_rfl) ?_
 try simp only [qN]
 refine qF ?_ ?_ ?_ ?_ <| qA ?_ <| qA ?_ <| qZ
 . exact ob_inI (by omega)
 . exact ob_no (by omega)
 . exact ob_no (by omega)
 . exact ob_lt (by omega)
 . exact ob_idx (by omega)
 . exact ob_yes (by omega)
theorem cs_lo (gl : Gl) (p : Pts) (s : Int) (i : Nat) (hi : i < p.P) (hP : p.P <= 1000) (h0 : p.fr i < 0) (w : World) (hG : GlobOk gl w) : S2.Sem (envCs gl) w 36 csC (csS p s i) (some none) (csR 31) := by
 refine sem_iter (envCs_ok gl) hG (p := csQR) (fuel := 1000) [true, true] [(decide (p.fr (i : Int).toNat < 0), true), (pre (decide ((i : Int).toNat < p.P)), true), (pre (idxB (i : Int) p.P), true), (decide ((i : Int) < (p.P : Int)), true)] (by kernel_rfl) (by kernel_rfl) ?_
 try simp only [qN]
 refine qF ?_ ?_ ?_ ?_ <| qZ
 . exact ob_yes (by omega)
 . exact ob_lt (by omega)
 . exact ob_idx (by omega)
 . exact ob_yes (by omega)
theorem cs_hi (gl : Gl) (p : Pts) (s : Int) (i : Nat) (hi : i < p.P) (hP : p.P <= 1000) (h0 : ¬ p.fr i < 0) (h1 : p.fr i > 250) (w : World) (hG : GlobOk gl w) : S2.Sem (envCs gl) w 36 csC (csS p s i) (some none) (csR 31) := by
 refine sem_iter (envCs_ok gl) hG (p := csQR) (fuel := 1000) [true, false, true] [(decide (p.fr (i : Int).toNat > 250), true), (decide (p.fr (i : Int).toNat < 0), false), (pre (decide ((i : Int).toNat < p.P)), true), (pre (idxB (i : Int) p.P), true), (decide ((i : Int) < (p.P : Int)), true)] (by kernel_rfl) (by kernel_rfl) ?_
 try simp only [qN]
 refine qF ?_ ?_ ?_ ?_ <| qA ?_ <| qZ
 . exact ob_yes (by omega)
 . exact ob_no (by omega)
 . exact ob_lt (by omega)
 . exact ob_idx (by omega)
 . exact ob_yes (by omega)
theorem cs_end (gl : Gl) (p : Pts) (s : Int) (w : World) (hG : GlobOk gl w) : S2.Sem (envCs gl) w 36 csC (csS p s p.P) (some (some 0)) (csS p s p.P) := by
 refine sem_iter (envCs_ok gl) hG (p := csQ) (fuel := 1000) [false] [(decide ((p.P : Int) < (p.P : Int)), false)] (by kernel_rfl) (by kernel_rfl) ?_
 try simp only [qN]
 refine qA ?_ <| qZ
 . exact ob_no (by omega)
theorem cs_ok (gl : Gl) (p : Pts) (s : Int) (hP : p.P <= 1000) (h : fstN (frB p) p.P = none) (w : World) (hG : GlobOk gl w) : S2.Sem (envCs gl) w 36 (.loop csC) (csS p s 0) (some (some 0)) (csS p s p.P) :=
 sem_loop (E := envCs gl) (w0 := base0 w) (nb := 0) (nl := 0) (n := 36) (c := csC) (x := some (some 0)) (s' := csS p s p.P) (fun i => csS p s i) p.P (by simp) (fun i hi => by
   have hb := fst_none h i hi
   unfold frB at hb; simp at hb
   exact cs_0 gl p s i hi hP (by omega) (by omega) w hG) (cs_end gl p s w hG)
theorem cs_bad (gl : Gl) (p : Pts) (s : Int) (hP : p.P <= 1000) (j : Nat) (h : fstN (frB p) p.P = some j) (w : World) (hG : GlobOk gl w) : S2.Sem (envCs gl) w 36 (.loop csC) (csS p s 0) (some none) (csR 31) := by
 obtain ⟨h1, h2, h3⟩ := fst_some h
 refine sem_loop (E := envCs gl) (w0 := base0 w) (nb := 0) (nl := 0) (n := 36) (c := csC) (x := some none) (s' := csR 31) (fun i => csS p s i) j (by simp) (fun i hi => by
   have hb := h3 i hi
   unfold frB at hb; simp at hb
   exact cs_0 gl p s i (by omega) hP (by omega) (by omega) w hG) ?_
 unfold frB at h2
 by_cases h0 : p.fr j < 0
 . exact cs_lo gl p s j h1 hP h0 w hG
 . exact cs_hi gl p s j h1 hP h0 (by simp at h2; omega) w hG
noncomputable def csZ (p : Pts) (c s : Int) : Int := if p.P < 1 \/ 8 < p.P then 29 else if 200 < c then 30 else if (fstN (frB p) p.P).isSome \/ 4096 < s then 31 else 0
theorem ck_a (gl : Gl) (p : Pts) (c s : Int) (h : p.P < 1) (w : World) (vals : List Value) (hG : GlobOk gl w) (ha : ArgsOk w [.inr (lPart p), .inl (.int .i64 c), .inl (.int .i64 s)] vals) : LRet Tryd.prog 16 vals false [.inl (.int .i64 29)] w := by
 refine fn_ok (envCs_ok gl) (fuel := 1000) (d := 30) (plan := []) (orc := [true]) (fls := [[], [true], [true]]) (l := [((p.P : Int) == 0, true)]) (tr := []) (by kernel_rfl) ?_ Tryd.func16 w vals hG ha fun t ht => by cases ht
 refine qA ?_ <| qZ
 . simp; omega
theorem ck_b (gl : Gl) (p : Pts) (c s : Int) (h : 8 < p.P) (w : World) (vals : List Value) (hG : GlobOk gl w) (ha : ArgsOk w [.inr (lPart p), .inl (.int .i64 c), .inl (.int .i64 s)] vals) : LRet Tryd.prog 16 vals false [.inl (.int .i64 29)] w := by
 refine fn_ok (envCs_ok gl) (fuel := 1000) (d := 30) (plan := []) (orc := [false, true]) (fls := [[], [true], [true]]) (l := [(decide ((p.P : Int) > 8), true), ((p.P : Int) == 0, false)]) (tr := []) (by kernel_rfl) ?_ Tryd.func16 w vals hG ha fun t ht => by cases ht
 refine qA ?_ <| qA ?_ <| qZ
 . exact ob_yes (by omega)
 . simp; omega
theorem ck_c (gl : Gl) (p : Pts) (c s : Int) (h : ¬ p.P < 1) (h1 : ¬ 8 < p.P) (h2 : 200 < c) (w : World) (vals : List Value) (hG : GlobOk gl w) (ha : ArgsOk w [.inr (lPart p), .inl (.int .i64 c), .inl (.int .i64 s)] vals) : LRet Tryd.prog 16 vals false [.inl (.int .i64 30)] w := by
 refine fn_ok (envCs_ok gl) (fuel := 1000) (d := 30) (plan := []) (orc := [false, false, true]) (fls := [[], [true], [true]]) (l := [(decide (c > 200), true), (decide ((p.P : Int) > 8), false), ((p.P : Int) == 0, false)]) (tr := []) (by kernel_rfl) ?_ Tryd.func16 w vals hG ha fun t ht => by cases ht
 refine qA ?_ <| qA ?_ <| qA ?_ <| qZ
 . exact ob_yes (by omega)
 . exact ob_no (by omega)
 . simp; omega
theorem ck_d (gl : Gl) (p : Pts) (c s : Int) (h : ¬ p.P < 1) (h1 : ¬ 8 < p.P) (h2 : ¬ 200 < c) (hs : ∀ w, GlobOk gl w -> S2.Sem (envCs gl) w 36 (.loop csC) (csS p s 0) (some none) (csR 31)) (w : World) (vals : List Value) (hG : GlobOk gl w) (ha : ArgsOk w [.inr (lPart p), .inl (.int .i64 c), .inl (.int .i64 s)] vals) : LRet Tryd.prog 16 vals false [.inl (.int .i64 31)] w := by
 refine fn_ok (envCs_ok gl) (fuel := 1000) (d := 30) (plan := [⟨csP, csQ, some none, csR 31⟩]) (orc := [false, false, false]) (fls := [[], [true], [true]]) (l := [(decide (c > 200), false), (decide ((p.P : Int) > 8), false), ((p.P : Int) == 0, false)]) (tr := [⟨.loop csC, csS p s 0, some none, csR 31⟩]) (by kernel_rfl) ?_ Tryd.func16 w vals hG ha fun t ht => by (
   obtain rfl := List.mem_singleton.mp ht
   exact hs w hG)
 refine qA ?_ <| qA ?_ <| qA ?_ <| qZ
 . exact ob_no (by omega)
 . exact ob_no (by omega)
 . simp; omega
theorem ck_e (gl : Gl) (p : Pts) (c s : Int) (h : ¬ p.P < 1) (h1 : ¬ 8 < p.P) (h2 : ¬ 200 < c) (h3 : 4096 < s) (hs : ∀ w, GlobOk gl w -> S2.Sem (envCs gl) w 36 (.loop csC) (csS p s 0) (some (some 0)) (csS p s p.P)) (w : World) (vals : List Value) (hG : GlobOk gl w) (ha : ArgsOk w [.inr (lPart p), .inl (.int .i64 c), .inl (.int .i64 s)] vals) : LRet Tryd.prog 16 vals false [.inl (.int .i64 31)] w := by
 refine fn_ok (envCs_ok gl) (fuel := 1000) (d := 30) (plan := [⟨csP, csQ, some (some 0), csS p s p.P⟩]) (orc := [false, false, false, true]) (fls := [[], [true], [true]]) (l := [(decide (s > 4096), true), (decide (c > 200), false), (decide ((p.P : Int) > 8), false), ((p.P : Int) == 0, false)]) (tr := [⟨.loop csC, csS p s 0, some (some 0), csS p s p.P⟩]) (by kernel_rfl) ?_ Tryd.func16 w vals hG ha fun t ht => by (
   obtain rfl := List.mem_singleton.mp ht
   exact hs w hG)
 refine qF ?_ ?_ ?_ ?_ <| qZ
 . exact ob_yes (by omega)
 . exact ob_no (by omega)
 . exact ob_no (by omega)
 . simp; omega
theorem ck_f (gl : Gl) (p : Pts) (c s : Int) (h : ¬ p.P < 1) (h1 : ¬ 8 < p.P) (h2 : ¬ 200 < c) (h3 : ¬ 4096 < s) (hs : ∀ w, GlobOk gl w -> S2.Sem (envCs gl) w 36 (.loop csC) (csS p s 0) (some (some 0)) (csS p s p.P)) (w : World) (vals : List Value) (hG : GlobOk gl w) (ha : ArgsOk w [.inr (lPart p), .inl (.int .i64 c), .inl (.int .i64 s)] vals) : LRet Tryd.prog 16 vals false [.inl (.int .i64 0)] w := by
 refine fn_ok (envCs_ok gl) (fuel := 1000) (d := 30) (plan := [⟨csP, csQ, some (some 0), csS p s p.P⟩]) (orc := [false, false, false, false]) (fls := [[], [true], [true]]) (l := [(decide (s > 4096), false), (decide (c > 200), false), (decide ((p.P : Int) > 8), false), ((p.P : Int) == 0, false)]) (tr := [⟨.loop csC, csS p s 0, some (some 0), csS p s p.P⟩]) (by kernel_rfl) ?_ Tryd.func16 w vals hG ha fun t ht => by (
   obtain rfl := List.mem_singleton.mp ht
   exact hs w hG)
 refine qF ?_ ?_ ?_ ?_ <| qZ
 . exact ob_no (by omega)
 . exact ob_no (by omega)
 . exact ob_no (by omega)
 . simp; omega
theorem sizes_ret (gl : Gl) (p : Pts) (c s : Int) (hP : p.P <= 1000) (w : World) (vals : List Value) (hG : GlobOk gl w) (ha : ArgsOk w [.inr (lPart p), .inl (.int .i64 c), .inl (.int .i64 s)] vals) : LRet Tryd.prog 16 vals false [.inl (.int .i64 (csZ p c s))] w := by
 unfold csZ
 by_cases a1 : p.P < 1
 . rw [if_pos (.inl a1)]; exact ck_a gl p c s a1 w vals hG ha
 by_cases a2 : 8 < p.P
 . rw [if_pos (.inr a2)]; exact ck_b gl p c s a2 w vals hG ha
 rw [if_neg (by omega)]
 by_cases a3 : 200 < c
 . rw [if_pos a3]; exact ck_c gl p c s a1 a2 a3 w vals hG ha
 rw [if_neg a3]
 cases a4 : fstN (frB p) p.P with
 | some j => rw [if_pos (.inl rfl)]; exact ck_d gl p c s a1 a2 a3 (fun w hG => cs_bad gl p s hP j a4 w hG) w vals hG ha
 | none =>
   by_cases a5 : 4096 < s
   . rw [if_pos (.inr a5)]; exact ck_e gl p c s a1 a2 a3 a5 (fun w hG => cs_ok gl p s hP a4 w hG) w vals hG ha
   . rw [if_neg (by rintro (h | h); exact absurd h (by decide); exact a5 h)]; exact ck_f gl p c s a1 a2 a3 a5 (fun w hG => cs_ok gl p s hP a4 w hG) w vals hG ha
noncomputable def lCs (p : Pts) : LTab := lrow 16 fun args => match args with
 | [.inr e, .inl (.int .i64 c), .inl (.int .i64 s)] => some (false, [.inl (.int .i64 (csZ p c s))], pre (propB (isPt e p /\ p.P <= 1000)))
 | _ => none
theorem lCs_ok {gl : Gl} (p : Pts) : LTabOk Tryd.prog gl (lCs p) := .row fun args tup res h w vals hG ha => by
 split at h
 . rename_i e c s
   simp only [qS, qP] at h
   obtain ⟨rfl, rfl, hp⟩ := h
   obtain ⟨he, hP⟩ := propB_ok.mp hp
   match vals, ha with
   | [u, v, x], ha => exact sizes_ret gl p c s hP w [u, v, x] hG ⟨InB.pt ha.1 he _, ha.2⟩
   | [], ha => exact ha.elim
   | [_], ha => exact ha.2.elim
   | [_, _], ha => exact ha.2.2.elim
   | _ :: _ :: _ :: _ :: _, ha => exact ha.2.2.2.elim
 . cases h
def isWd (e : LE) (A : List In) : Prop := e.size = 7 /\ e.n = A.length /\ ∀ j, j < A.length -> e.el j = inC ((A[j]?).getD zI10)
theorem isWd_self (A : List In) : isWd (wdE A) A := ⟨rfl, rfl, fun _ _ => rfl⟩
def elW (A : List In) (j : Nat) : In := (A[j]?).getD zI10
theorem InB.wd {B : Nat} {w : World} {e : LE} {v : Value} {A : List In} (h : InB B w e v) (he : isWd e A) : InB B w (insE A.length (elW A)) v := by
 obtain ⟨h1, h2, h3⟩ := he
 obtain ⟨⟨k0, k1⟩, a, cap, k2, k3, k4⟩ := h
 rw [h1, h2] at k1 k4
 rw [h2] at k2 k3
 refine ⟨⟨by show 0 < 7; omega, fun j hj => ?_⟩, a, cap, k2, k3, fun hn => ?_⟩
 . have := k1 j hj; rw [h3 j hj] at this; exact this
 . obtain ⟨b, off, q1, q2, q3⟩ := k4 hn
   refine ⟨b, off, q1, q2, fun j hj o c ho => ?_⟩
   have := q3 j hj o c
   rw [h3 j hj] at this
   exact this ho
noncomputable def allSw (A : List In) : S2.St := { allS A.length (elW A) A.length with own := ⟨[], [insE A.length (elW A), w3E (A.map encZ)]⟩ }
theorem words_same (A : List In) (hm : ∀ x ∈ A, mayB x = true) : sameE (wordsE A.length (elW A)) (w3E (A.map encZ)) := ⟨rfl, rfl, by simp [wordsE, w3E], rfl, rfl, fun i hi => by
 have hi : i < A.length := hi
 show [Value.int .u32 (wordE ((A[i]?).getD zI10))] = [Value.int .u32 (((A.map encZ)[i]?).getD 0)]
 rw [List.getElem?_map, List.getElem?_eq_getElem hi]
 show [Value.int .u32 (wordE A[i])] = [Value.int .u32 (encZ A[i])]
 unfold wordE
 rw [hm _ (List.getElem_mem hi)]; rfl⟩
theorem encAll_ret (A : List In) (hn : A.length <= 1000000000) (hm : ∀ x ∈ A, mayB x = true) (w : World) (vals : List Value) (hG : GlobOk encGl w) (ha : ArgsOk w [.inr (insE A.length (elW A))] vals) :
   LRet Tryd.prog 18 vals true [.inr (w3E (A.map encZ)), .inl (.int .i64 0), .inl (.int .i64 0)] w := by
 refine fn_ok envA_ok (fuel := 1000) (d := 30) (plan := [⟨allPath, allP (elW A), some (some 0), allSw A⟩]) (orc := []) (fls := [[]]) (l := []) (tr := [⟨.loop allC, allS A.length (elW A) 0, some (some 0), allSw A⟩]) (by kernel_rfl) (fun _ h => by cases h) Tryd.func18 w vals hG ha fun t ht => ?_
 obtain rfl := List.mem_singleton.mp ht
 exact (sem_loop (allS A.length (elW A)) A.length (by simp) (fun j hj => all_step A.length (elW A) (by omega) j hj (hm _ (by unfold elW; rw [List.getElem?_eq_getElem hj]; exact List.getElem_mem hj)) w hG) (all_last A.length (elW A) w hG)).same rfl rfl ⟨.refl _, words_same A hm, trivial⟩ rfl
noncomputable def lAl (A : List In) : LTab := lrow 18 fun args => match args with
 | [.inr e] => some (true, [.inr (w3E (A.map encZ)), .inl (.int .i64 0), .inl (.int .i64 0)], pre (propB (isWd e A /\ A.length <= 1000000000 /\ ∀ x ∈ A, mayB x = true)))
 | _ => none
theorem lAl_ok (A : List In) : LTabOk Tryd.prog encGl (lAl A) := .row fun args tup res h w vals hG ha => by
 split at h
 . rename_i e
   simp only [qS, qP] at h
   obtain ⟨rfl, rfl, hp⟩ := h
   obtain ⟨h1, h2, h3⟩ := propB_ok.mp hp
   match vals, ha with
   | [u], ha => exact encAll_ret A h2 h3 w [u] hG ⟨InB.wd ha.1 h1, trivial⟩
   | [], ha => exact ha.elim
   | _ :: _ :: _, ha => exact ha.2.elim
 . cases h
noncomputable def envDa (gl : Gl) : S2.Env := envk Tryd.prog gl true noT noP noL
noncomputable def envDn (gl : Gl) : S2.Env := { envk Tryd.prog gl true noT noP noL with non := [7] }
theorem envDa_ok (gl : Gl) : CallOk (envDa gl) := envk_ok (nw := true) (.none _ _) (.none _ _) (.none _ _)
theorem envDn_ok (gl : Gl) : CallOk (envDn gl) := envk_ok (nw := true) (.none _ _) (.none _ _) (.none _ _)
def emp0 : Nat -> List Value := fun _ => []
def zero1 : Nat -> List Value := fun _ => [.int .i64 0]
def datL (c : Nat) (C : Nat -> Int) (d : Int) : List Int := celL c C ++ List.replicate (d - c).toNat 0
theorem dat_same (c : Nat) (C : Nat -> Int) (d : Int) : sameE (raw1 (0 + c + (d - c).toNat) (joinE (0 + c) (joinE 0 emp0 (intL false c C).el) zero1)) (ntE (datL c C d)) := by
 refine ⟨rfl, rfl, by show 0 + c + (d - c).toNat = (datL c C d).length; unfold datL; rw [List.length_append, celL_len, List.length_replicate]; omega, rfl, rfl, joinE_app (fun i hi => ?_) fun i hi => ?_⟩
 . have hi : i < c := by omega
   show joinE 0 emp0 (intL false c C).el i = [Value.int .i64 (((datL c C d)[i]?).getD 0)]
   unfold datL
   rw [List.getElem?_append_left (by rw [celL_len]; exact hi), celL_get c C i hi]
   rfl
 . show [Value.int .i64 0] = [Value.int .i64 (((datL c C d)[0 + c + i]?).getD 0)]
   unfold datL
   rw [List.getElem?_append_right (by rw [celL_len]; omega), celL_len, List.getElem?_replicate]
   rw [if_pos (by omega)]; rfl
theorem dat_same0 (C : Nat -> Int) (d : Int) : sameE (raw1 (0 + (d - ((0 : Nat) : Int)).toNat) (joinE 0 emp0 zero1)) (ntE (datL 0 C d)) := by
 refine ⟨rfl, rfl, by show 0 + (d - ((0 : Nat) : Int)).toNat = (datL 0 C d).length; unfold datL; rw [List.length_append, celL_len, List.length_replicate], rfl, rfl, joinE_app (n := 0) (f := emp0) (h := (ntE (datL 0 C d)).el) (fun i hi => absurd hi (Nat.not_lt_zero _)) fun i hi => ?_⟩
 show [Value.int .i64 0] = [Value.int .i64 (((datL 0 C d)[0 + i]?).getD 0)]
 unfold datL
 rw [List.getElem?_append_right (by rw [celL_len]; omega), celL_len, List.getElem?_replicate]
 rw [if_pos (by omega)]; rfl
theorem dat_y (gl : Gl) (c : Nat) (C : Nat -> Int) (d : Int) (h0 : 0 < c) (h1 : (c : Int) <= d) (h2 : d <= 1000000) (w : World) (vals : List Value) (hG : GlobOk gl w) (ha : ArgsOk w [.inr (intL false c C), .inl (.int .i64 d)] vals) : LRet Tryd.prog 19 vals false [.inr (raw1 (0 + c + (d - c).toNat) (joinE (0 + c) (joinE 0 emp0 (intL false c C).el) zero1))] w := by
 refine fn_ok (envDa_ok gl) (fuel := 1000) (d := 30) (plan := []) (orc := []) (fls := [[], [true]]) (l := [(pre (decide (0 <= d - (c : Int) /\ 0 + c + (d - (c : Int)).toNat <= maxLen /\ (0 + c + (d - (c : Int)).toNat) * 8 <= 140737488355328)), true), (pre (inI (d - (c : Int))), true), (pre (decide (0 + c <= maxLen /\ (0 + c) * 8 <= 140737488355328 /\ 0 < c)), true)]) (tr := []) (by kernel_rfl) ?_ Tryd.func19 w vals hG ha fun t ht => by cases ht
 refine qA ?_ <| qA ?_ <| qA ?_ <| qZ
 . exact decide_eq_true ⟨by omega, by simp only [maxLen]; omega, by omega⟩
 . exact ob_inI (by omega)
 . exact ob_app (by omega) (by decide) (by omega)
theorem dat_n (gl : Gl) (c : Nat) (C : Nat -> Int) (d : Int) (h0 : c = 0) (h1 : (c : Int) <= d) (h2 : d <= 1000000) (w : World) (vals : List Value) (hG : GlobOk gl w) (ha : ArgsOk w [.inr (intL false c C), .inl (.int .i64 d)] vals) : LRet Tryd.prog 19 vals false [.inr (raw1 (0 + (d - (c : Int)).toNat) (joinE 0 emp0 zero1))] w := by
 refine fn_ok (envDn_ok gl) (fuel := 1000) (d := 30) (plan := []) (orc := []) (fls := [[], [true]]) (l := [(pre (decide (0 <= d - (c : Int) /\ 0 + (d - (c : Int)).toNat <= maxLen /\ (0 + (d - (c : Int)).toNat) * 8 <= 140737488355328)), true), (pre (inI (d - (c : Int))), true), (pre (decide (c = 0)), true)]) (tr := []) (by kernel_rfl) ?_ Tryd.func19 w vals hG ha fun t ht => by cases ht
 refine qA ?_ <| qA ?_ <| qA ?_ <| qZ
 . exact decide_eq_true ⟨by omega, by simp only [maxLen]; omega, by omega⟩
 . exact ob_inI (by omega)
 . exact decide_eq_true h0
theorem data_ret (gl : Gl) (c : Nat) (C : Nat -> Int) (d : Int) (h1 : (c : Int) <= d) (h2 : d <= 1000000) (w : World) (vals : List Value) (hG : GlobOk gl w) (ha : ArgsOk w [.inr (intL false c C), .inl (.int .i64 d)] vals) : LRet Tryd.prog 19 vals false [.inr (ntE (datL c C d))] w := by
 by_cases h0 : c = 0
 . subst h0
   exact LRet.sameL1 (dat_n gl 0 C d rfl h1 h2 w vals hG ha) (dat_same0 C d)
 . exact LRet.sameL1 (dat_y gl c C d (by omega) h1 h2 w vals hG ha) (dat_same c C d)
noncomputable def lDat (c : Nat) (C : Nat -> Int) : LTab := lrow 19 fun args => match args with
 | [.inr e, .inl (.int .i64 d)] => some (false, [.inr (ntE (datL c C d))], pre (propB (isInts e c C /\ (c : Int) <= d /\ d <= 1000000)))
 | _ => none
theorem lDat_ok {gl : Gl} (c : Nat) (C : Nat -> Int) : LTabOk Tryd.prog gl (lDat c C) := .row fun args tup res h w vals hG ha => by
 split at h
 . rename_i e d
   simp only [qS, qP] at h
   obtain ⟨rfl, rfl, hp⟩ := h
   obtain ⟨he, h1, h2⟩ := propB_ok.mp hp
   match vals, ha with
   | [u, v], ha => exact data_ret gl c C d h1 h2 w [u, v] hG ⟨InB.ints10 ha.1 he, ha.2⟩
   | [], ha => exact ha.elim
   | [_], ha => exact ha.2.elim
   | _ :: _ :: _ :: _, ha => exact ha.2.2.elim
 . cases h
end Go.Proofs.YtilljoemebbnjaaDoor
