/- Layer 10: the program: where labels stand (targets), which units may be laid out (mayLay), the long branches found round by round (settle). -/
import Derived.Test.YtilljoemebbnjaaDoorRelax10
import Derived.Test.YtilljoemebbnjaaDoorWell09
set_option linter.unusedVariables false
set_option linter.unusedSimpArgs false
namespace Go.Proofs.YtilljoemebbnjaaDoor
open Go.RowKit Sim S2
def tgL (f : Nat -> It) : Nat -> List (Int × Value)
 | 0 => []
 | k + 1 => bif (f k).kind == 1 then ((f k).n, .int .i64 k) :: tgL f k else tgL f k
theorem tgL_len (f : Nat -> It) : ∀ k, (tgL f k).length <= k
 | 0 => Nat.le_refl _
 | k + 1 => by
   have := tgL_len f k
   unfold tgL
   cases (f k).kind == 1
   . show (tgL f k).length <= _; omega
   . show (tgL f k).length + 1 <= _; omega
theorem fmt_tgL (f : Nat -> It) : ∀ k, FmtL (tgL f k) (.int .i64 0)
 | 0 => fun _ h => by cases h
 | k + 1 => by
   have := fmt_tgL f k
   unfold tgL
   cases (f k).kind == 1
   . exact this
   . intro p hp
     rcases List.mem_cons.mp hp with rfl | hp
     . rfl
     . exact this p hp
theorem fmt_tg (f : Nat -> It) (k : Nat) : pre (fmtB (tgL f k) (.int .i64 0)) = true := fmtB_ok.mpr (fmt_tgL f k)
def laI (f : Nat -> It) (x : Int) : Nat -> Nat
 | 0 => 0
 | k + 1 => bif labB f x k then k else laI f x k
theorem lok_tg (f : Nat -> It) (x : Int) : ∀ k, numV (lokZ (tgL f k) x (.int .i64 0)) = (laI f x k : Int)
 | 0 => by rw [lokZ_eq]; rfl
 | k + 1 => by
   have ih := lok_tg f x k
   rw [lokZ_eq] at ih ⊢
   have e2 : tgL f (k + 1) = bif (f k).kind == 1 then ((f k).n, .int .i64 k) :: tgL f k else tgL f k := rfl
   rw [e2]
   unfold laI labB
   cases (f k).kind == 1
   . exact ih
   . simp only [cond_true, Bool.true_and]
     rw [logL]
     cases (f k).n == x
     . exact ih
     . rfl
theorem laI_lt (f : Nat -> It) (x : Int) : ∀ k, laI f x k = 0 \/ laI f x k < k
 | 0 => .inl rfl
 | k + 1 => by
   unfold laI
   cases labB f x k
   . rcases laI_lt f x k with h | h
     . exact .inl h
     . exact .inr (by show laI f x k < _; omega)
   . exact .inr (by show k < _; omega)
theorem laI_lab {f : Nat -> It} {x : Int} {k : Nat} (hk : labB f x k = true) : ∀ {n : Nat}, k < n -> (∀ j, k < j -> j < n -> labB f x j = false) -> laI f x n = k
 | 0, h, _ => by omega
 | n + 1, h, hu => by
   show (bif labB f x n then n else laI f x n) = _
   by_cases e : k = n
   . subst e; rw [hk]; rfl
   . rw [hu n (by omega) (by omega)]
     exact laI_lab hk (by omega) fun j h1 h2 => hu j h1 (by omega)
noncomputable def tgF (f : Nat -> It) (n j : Nat) : Int := bif (f j).kind == 2 || (f j).kind == 3 then numV (lokZ (tgL f n) (f j).n (.int .i64 0)) else 0
theorem tgZ_ex : ∃ h : (Nat -> It) -> Nat -> Nat -> Int, ∀ f n j, h f n j = tgF f n j := ⟨_, fun _ _ _ => rfl⟩
noncomputable def tgZ : (Nat -> It) -> Nat -> Nat -> Int := Classical.choose tgZ_ex
theorem tgZ_eq (f : Nat -> It) (n j : Nat) : tgZ f n j = tgF f n j := Classical.choose_spec tgZ_ex f n j
theorem tgZ_rng (f : Nat -> It) (n j : Nat) (hj : j < n) : 0 <= tgZ f n j /\ tgZ f n j < n := by
 rw [tgZ_eq]
 unfold tgF
 cases (f j).kind == 2 || (f j).kind == 3
 . exact ⟨by show (0 : Int) <= 0; omega, by show (0 : Int) < n; omega⟩
 . rw [lok_tg]
   rcases laI_lt f (f j).n n with h | h
   . rw [h]; exact ⟨by show (0 : Int) <= 0; omega, by show (0 : Int) < n; omega⟩
   . exact ⟨by show (0 : Int) <= (laI f (f j).n n : Nat); omega, by show ((laI f (f j).n n : Nat) : Int) < n; omega⟩
def mpB (l : List (Int × Value)) : S2.Blk := ⟨[], 0, .map 114 l⟩
def tg1 (n : Nat) (f : Nat -> It) (l : List (Int × Value)) (j : Nat) : S2.St := { tmps := [(0, .c 0), (3, .mp 0), (10, .c 0), (11, .inl ([true], .int .i64 n)), (12, .inl ([true], .int .i64 j))], own := ⟨[mpB l], [itE n f]⟩, lo := 0, llo := 0, mem := true, orc := [], obl := [] }
def tgQ1 : Pick := { ts := [0, 3, 10, 11, 12], bs := [0], ls := [0], opn := [12] }
def tgP1 : List Nat := [0, 1, 0, 1, 1]
def tg2 (n : Nat) (f : Nat -> It) (l : List (Int × Value)) (e : LE) (j : Nat) : S2.St := { tmps := [(3, .mp 0), (6, .c 1), (28, .c 0), (29, .inl ([true], .int .i64 n)), (30, .inl ([true], .int .i64 j))], own := ⟨[mpB l], [itE n f, e]⟩, lo := 0, llo := 0, mem := true, orc := [], obl := [] }
def tgQ2 : Pick := { ts := [3, 6, 28, 29, 30], bs := [0], ls := [0, 1], opn := [30] }
def tgP2 : List Nat := [0, 1, 0, 1, 1, 1, 1]
noncomputable def tgC (p : List Nat) : Code := codeAt (codeOf Tryd.prog 59) (0 :: p)
theorem tg1_f (n : Nat) (f : Nat -> It) (hn : n <= 1000000) (hr : ∀ j, j < n -> wfIt (f j)) (j : Nat) (hj : j < n) (h1 : ((f j).kind == 1) = false) (w : World) : S2.Sem envP0 w 52 (tgC tgP1) (tg1 n f (tgL f j) j) none (tg1 n f (tgL f j) (j + 1)) := by
 refine sem_iter envP0_ok (GlobOk.none w) (p := tgQ1) (fuel := 1000) [true, false] [(pre (inI ((j : Int) + 1)), true), ((f ((j : Int)).toNat).kind == 1, false), (pre (decide (((j : Int)).toNat < n)), true), (pre (idxB ((j : Int)) n), true), (decide ((j : Int) < (n : Int)), true)] (by kernel_rfl) (by kernel_rfl) ?_
 try simp only [qN]
 refine qF ?_ ?_ ?_ ?_ <| qA ?_ <| qZ
 . exact ob_inI (by omega)
 . assumption
 . exact ob_lt (by omega)
 . exact ob_idx (by omega)
 . exact ob_yes (by omega)
theorem tg1_t (n : Nat) (f : Nat -> It) (hn : n <= 1000000) (hr : ∀ j, j < n -> wfIt (f j)) (j : Nat) (hj : j < n) (h1 : ((f j).kind == 1) = true) (w : World) : S2.Sem envP0 w 52 (tgC tgP1) (tg1 n f (tgL f j) j) none (tg1 n f (((f j).n, .int .i64 j) :: tgL f j) (j + 1)) := by
 refine sem_iter envP0_ok (GlobOk.none w) (p := tgQ1) (fuel := 1000) [true, true] [(pre (inI ((j : Int) + 1)), true), (pre (decide (inI (f ((j : Int)).toNat).n = true /\ (tgL f j).length < maxLen)), true), ((f ((j : Int)).toNat).kind == 1, true), (pre (decide (((j : Int)).toNat < n)), true), (pre (idxB ((j : Int)) n), true), (decide ((j : Int) < (n : Int)), true)] (by kernel_rfl) (by kernel_rfl) ?_
 try simp only [qN]
 refine qF ?_ ?_ ?_ ?_ <| qA ?_ <| qA ?_ <| qZ
 . exact ob_inI (by omega)
 . exact (by unfold pre; exact decide_eq_true ⟨(by unfold inI; exact decide_eq_true (hr j hj)), by have := tgL_len f j; unfold maxLen; omega⟩)
 . assumption
 . exact ob_lt (by omega)
 . exact ob_idx (by omega)
 . exact ob_yes (by omega)
theorem tg1_end (n : Nat) (f : Nat -> It) (l : List (Int × Value)) (w : World) : S2.Sem envP0 w 52 (tgC tgP1) (tg1 n f l n) (some (some 0)) (tg1 n f l n) := by
 refine sem_iter envP0_ok (GlobOk.none w) (p := tgQ1) (fuel := 1000) [false] [(decide ((n : Int) < (n : Int)), false)] (by kernel_rfl) (by kernel_rfl) ?_
 try simp only [qN]
 refine qA ?_ <| qZ
 . exact ob_no (by omega)
theorem tg1_step (n : Nat) (f : Nat -> It) (hn : n <= 1000000) (hr : ∀ j, j < n -> wfIt (f j)) (j : Nat) (hj : j < n) (w : World) : S2.Sem envP0 w 52 (tgC tgP1) (tg1 n f (tgL f j) j) none (tg1 n f (tgL f (j + 1)) (j + 1)) := by
 have e : tgL f (j + 1) = bif (f j).kind == 1 then ((f j).n, .int .i64 j) :: tgL f j else tgL f j := rfl
 rw [e]
 cases h1 : (f j).kind == 1
 . exact tg1_f n f hn hr j hj h1 w
 . exact tg1_t n f hn hr j hj h1 w
noncomputable def tgJ (f : Nat -> It) (n j : Nat) : Nat -> Int := fun i => bif Nat.blt i j then tgF f n i else 0
theorem tg2_n (n : Nat) (f : Nat -> It) (hn : n <= 1000000) (hr : ∀ j, j < n -> wfIt (f j)) (j : Nat) (hj : j < n) (h2 : ((f j).kind == 2) = false) (h3 : ((f j).kind == 3) = false) (w : World) : S2.Sem envP0 w 52 (tgC tgP2) (tg2 n f (tgL f n) (iE n (tgJ f n j)) j) none (tg2 n f (tgL f n) (iE n (tgJ f n j)) (j + 1)) := by
 refine sem_iter envP0_ok (GlobOk.none w) (p := tgQ2) (fuel := 1000) [true, false, false] [(pre (inI ((j : Int) + 1)), true), ((f ((j : Int)).toNat).kind == 3, false), ((f ((j : Int)).toNat).kind == 2, false), (pre (decide (((j : Int)).toNat < n)), true), (pre (idxB ((j : Int)) n), true), (decide ((j : Int) < (n : Int)), true)] (by kernel_rfl) (by kernel_rfl) ?_
 try simp only [qN]
 refine qF ?_ ?_ ?_ ?_ <| qA ?_ <| qA ?_ <| qZ
 . exact ob_inI (by omega)
 . assumption
 . assumption
 . exact ob_lt (by omega)
 . exact ob_idx (by omega)
 . exact ob_yes (by omega)
theorem tg2_3 (n : Nat) (f : Nat -> It) (hn : n <= 1000000) (hr : ∀ j, j < n -> wfIt (f j)) (j : Nat) (hj : j < n) (h2 : ((f j).kind == 2) = false) (h3 : ((f j).kind == 3) = true) (w : World) : S2.Sem envP0 w 52 (tgC tgP2) (tg2 n f (tgL f n) (iE n (tgJ f n j)) j) none (tg2 n f (tgL f n) (stI n (tgJ f n j) j (numV (lokZ (tgL f n) (f j).n (.int .i64 0)))) (j + 1)) := by
 refine sem_iter envP0_ok (GlobOk.none w) (p := tgQ2) (fuel := 1000) [true, false, true] [(pre (inI ((j : Int) + 1)), true), (pre (decide (((j : Int)).toNat < n)), true), (pre (idxB ((j : Int)) n), true), (pre (fmtB (tgL f n) (Value.int IntKind.i64 0)), true), (pre (inI (f ((j : Int)).toNat).n), true), ((f ((j : Int)).toNat).kind == 3, true), ((f ((j : Int)).toNat).kind == 2, false), (pre (decide (((j : Int)).toNat < n)), true), (pre (idxB ((j : Int)) n), true), (decide ((j : Int) < (n : Int)), true)] (by kernel_rfl) (by kernel_rfl) ?_
 try simp only [qN]
 refine qF ?_ ?_ ?_ ?_ <| qF ?_ ?_ ?_ ?_ <| qA ?_ <| qA ?_ <| qZ
 . exact ob_inI (by omega)
 . exact ob_lt (by omega)
 . exact ob_idx (by omega)
 . exact fmt_tg f n
 . exact (by unfold pre inI; exact decide_eq_true (hr j hj))
 . assumption
 . assumption
 . exact ob_lt (by omega)
 . exact ob_idx (by omega)
 . exact ob_yes (by omega)
theorem tg2_2 (n : Nat) (f : Nat -> It) (hn : n <= 1000000) (hr : ∀ j, j < n -> wfIt (f j)) (j : Nat) (hj : j < n) (h2 : ((f j).kind == 2) = true) (w : World) : S2.Sem envP0 w 52 (tgC tgP2) (tg2 n f (tgL f n) (iE n (tgJ f n j)) j) none (tg2 n f (tgL f n) (stI n (tgJ f n j) j (numV (lokZ (tgL f n) (f j).n (.int .i64 0)))) (j + 1)) := by
 refine sem_iter envP0_ok (GlobOk.none w) (p := tgQ2) (fuel := 1000) [true, true] [(pre (inI ((j : Int) + 1)), true), (pre (decide (((j : Int)).toNat < n)), true), (pre (idxB ((j : Int)) n), true), (pre (fmtB (tgL f n) (Value.int IntKind.i64 0)), true), (pre (inI (f ((j : Int)).toNat).n), true), ((f ((j : Int)).toNat).kind == 2, true), (pre (decide (((j : Int)).toNat < n)), true), (pre (idxB ((j : Int)) n), true), (decide ((j : Int) < (n : Int)), true)] (by kernel_rfl) (by kernel_rfl) ?_
 try simp only [qN]
 refine qF ?_ ?_ ?_ ?_ <| qF ?_ ?_ ?_ ?_ <| qA ?_ <| qZ
 . exact ob_inI (by omega)
 . exact ob_lt (by omega)
 . exact ob_idx (by omega)
 . exact fmt_tg f n
 . exact (by unfold pre inI; exact decide_eq_true (hr j hj))
 . assumption
 . exact ob_lt (by omega)
 . exact ob_idx (by omega)
 . exact ob_yes (by omega)
theorem tg2_end (n : Nat) (f : Nat -> It) (l : List (Int × Value)) (e : LE) (w : World) : S2.Sem envP0 w 52 (tgC tgP2) (tg2 n f l e n) (some (some 2)) (tg2 n f l e n) := by
 refine sem_iter envP0_ok (GlobOk.none w) (p := tgQ2) (fuel := 1000) [false] [(decide ((n : Int) < (n : Int)), false)] (by kernel_rfl) (by kernel_rfl) ?_
 try simp only [qN]
 refine qA ?_ <| qZ
 . exact ob_no (by omega)
theorem tgJ_upd (f : Nat -> It) (n j i : Nat) : updI (tgJ f n j) j (tgF f n j) i = tgJ f n (j + 1) i := by
 unfold updI tgJ
 by_cases h1 : i = j
 . subst h1
   rw [Nat.beq_refl, blt_yes (Nat.lt_succ_self i)]; rfl
 . rw [beq_no h1]
   by_cases h2 : i < j
   . rw [blt_yes (by omega : i < j + 1), blt_yes h2]; rfl
   . rw [blt_no (by omega : ¬ i < j + 1), blt_no h2]; rfl
theorem tg2_step (n : Nat) (f : Nat -> It) (hn : n <= 1000000) (hr : ∀ j, j < n -> wfIt (f j)) (j : Nat) (hj : j < n) (w : World) : S2.Sem envP0 w 52 (tgC tgP2) (tg2 n f (tgL f n) (iE n (tgJ f n j)) j) none (tg2 n f (tgL f n) (iE n (tgJ f n (j + 1))) (j + 1)) := by
 have yes : tgF f n j = numV (lokZ (tgL f n) (f j).n (.int .i64 0)) -> sameE (stI n (tgJ f n j) j (numV (lokZ (tgL f n) (f j).n (.int .i64 0)))) (iE n (tgJ f n (j + 1))) := fun e => by
   rw [<- e]
   exact sameE_trans (stI_same _ _ _ _) (same_iE fun i _ => tgJ_upd f n j i)
 cases h2 : (f j).kind == 2
 . cases h3 : (f j).kind == 3
   . refine (tg2_n n f hn hr j hj h2 h3 w).same rfl rfl ⟨.refl _, same_iE fun i _ => ?_, trivial⟩ rfl
     rw [<- tgJ_upd]
     unfold updI
     by_cases h1 : i = j
     . subst h1
       rw [Nat.beq_refl]
       unfold tgJ tgF
       rw [blt_no (Nat.lt_irrefl i), h2, h3]; rfl
     . rw [beq_no h1]; rfl
   . exact (tg2_3 n f hn hr j hj h2 h3 w).same rfl rfl ⟨.refl _, yes (by unfold tgF; rw [h2, h3]; rfl), trivial⟩ rfl
 . exact (tg2_2 n f hn hr j hj h2 w).same rfl rfl ⟨.refl _, yes (by unfold tgF; rw [h2]; rfl), trivial⟩ rfl
theorem targets_ret (n : Nat) (f : Nat -> It) (hn : n <= 1000000) (hr : ∀ j, j < n -> wfIt (f j)) (w : World) (vals : List Value) (ha : ArgsOk w [.inr (itE n f)] vals) : LRet Tryd.prog 59 vals false [.inr (iE n (tgJ f n n))] w := by
 refine fn_ok envP0_ok (fuel := 1000) (d := 30) (plan := [⟨tgP1, tgQ1, some (some 0), tg1 n f (tgL f n) n⟩, ⟨tgP2, tgQ2, some (some 2), tg2 n f (tgL f n) (iE n (tgJ f n n)) n⟩]) (orc := []) (fls := [[]]) (l := [(pre (decide ((n : Int) = (n : Int) /\ 0 <= (n : Int) /\ 8 * ((n : Int)).toNat <= 281474976710656 /\ ((n : Int)).toNat <= maxLen)), true)]) (tr := [⟨.loop (tgC tgP1), tg1 n f [] 0, some (some 0), tg1 n f (tgL f n) n⟩, ⟨.loop (tgC tgP2), tg2 n f (tgL f n) (iE n (fun _ => 0)) 0, some (some 2), tg2 n f (tgL f n) (iE n (tgJ f n n)) n⟩]) (by kernel_rfl) (qA ?_ qZ) Tryd.func59 w vals (GlobOk.none w) ha fun t ht => ?_
 . unfold pre; exact decide_eq_true ⟨rfl, by omega, by omega, by rw [qN]; unfold maxLen; omega⟩
 . rcases List.mem_cons.mp ht with rfl | ht
   . exact sem_loop (fun j => tg1 n f (tgL f j) j) n (by simp) (fun j hj => tg1_step n f hn hr j hj w) (tg1_end n f _ w)
   obtain rfl := List.mem_singleton.mp ht
   exact (sem_loop (x := some (some 2)) (fun j => tg2 n f (tgL f n) (iE n (tgJ f n j)) j) n (by simp) (fun j hj => tg2_step n f hn hr j hj w) (tg2_end n f _ _ w)).alike rfl rfl ⟨.refl _, same_iE fun i _ => rfl, trivial⟩ rfl
noncomputable def lTarg (n : Nat) (f : Nat -> It) : LTab := lrow 59 fun args => match args with
 | [.inr e] => some (false, [.inr (iE n (tgZ f n))], pre (propB (isItE e n f /\ n <= 1000000 /\ ∀ j, j < n -> wfIt (f j))))
 | _ => none
theorem OutOk.same1 {B : Nat} {w : World} {e e' : LE} {vs : List Value} (h : OutOk B w [.inr e] vs) (hs : sameE e e') : OutOk B w [.inr e'] vs := by
 obtain ⟨v, rfl, ho⟩ := outOk_l h
 exact outOk_one (ho.same hs)
theorem lTarg_ok {gl : Gl} (n : Nat) (f : Nat -> It) : LTabOk Tryd.prog gl (lTarg n f) := .row fun args tup res h w vals hG ha => by
 split at h
 . rename_i e
   simp only [qS, qP] at h
   obtain ⟨rfl, rfl, hp⟩ := h
   obtain ⟨h1, h2, h3⟩ := propB_ok.mp hp
   match vals, ha with
   | [u], ha =>
     refine (targets_ret n f h2 h3 w [u] ⟨InB.it ha.1 h1, trivial⟩).mono fun e w' ⟨vs, he, ho, hb⟩ => ⟨vs, he, OutOk.same1 ho (same_iE fun i hi => ?_), hb⟩
     rw [tgZ_eq]; unfold tgJ; rw [blt_yes hi]; rfl
   | [], ha => exact ha.elim
   | _ :: _ :: _, ha => exact ha.2.elim
 . cases h
noncomputable def lUChk (n : Nat) (f : Nat -> It) : LTab := lrow 27 fun args => match args with
 | [.inr e] => some (false, [.inl (.tuple #[.int .i64 (unitR n f).1, .int .i64 (unitR n f).2])], pre (propB (isItE e n f /\ n <= 1000000 /\ ∀ j, j < n -> wfIt (f j))))
 | _ => none
theorem lUChk_ok (n : Nat) (f : Nat -> It) : LTabOk Tryd.prog (fun _ => none) (lUChk n f) := .row fun args tup res h w vals hG ha => by
 split at h
 . rename_i e
   simp only [qS, qP] at h
   obtain ⟨rfl, rfl, hp⟩ := h
   obtain ⟨h1, h2, h3⟩ := propB_ok.mp hp
   match vals, ha with
   | [u], ha => exact unitCheck_ret n f (by omega) h3 w [u] ⟨InB.it ha.1 h1, trivial⟩
   | [], ha => exact ha.elim
   | _ :: _ :: _, ha => exact ha.2.elim
 . cases h
noncomputable def envMl (n : Nat) (f : Nat -> It) : S2.Env := envk Tryd.prog (fun _ => none) true noT noP (lUChk n f)
theorem envMl_ok (n : Nat) (f : Nat -> It) : CallOk (envMl n f) := envk_ok (nw := true) (.none _ _) (.none _ _) (lUChk_ok n f)
def mlS (n : Nat) (f : Nat -> It) (j : Nat) : S2.St := { tmps := [(0, .c 0), (7, .c 0), (8, .inl ([true], .int .i64 n)), (9, .inl ([true], .int .i64 j))], own := ⟨[], [itE n f]⟩, lo := 0, llo := 0, mem := true, orc := [], obl := [] }
def mlR : S2.St := { tmps := [(2, .inl ([], .bool false))], own := ⟨[], []⟩, lo := 0, llo := 0, mem := true, orc := [], obl := [] }
def mlQ : Pick := { ts := [0, 7, 8, 9], bs := [], ls := [0], opn := [9] }
def mlQR : Pick := { ts := [2], bs := [], ls := [], opn := [] }
def mlP : List Nat := [0, 1, 0, 1]
noncomputable def mlC : Code := codeAt (codeOf Tryd.prog 42) (0 :: mlP)
theorem ml_no (n : Nat) (f : Nat -> It) (hn : n <= 1000000) (j : Nat) (hj : j < n) (h1 : ((f j).kind == 4) = false) (w : World) : S2.Sem (envMl n f) w 24 mlC (mlS n f j) none (mlS n f (j + 1)) := by
 refine sem_iter (envMl_ok n f) (GlobOk.none w) (p := mlQ) (fuel := 1000) [true, false] [(pre (inI ((j : Int) + 1)), true), ((f ((j : Int)).toNat).kind == 4, false), (pre (decide (((j : Int)).toNat < n)), true), (pre (idxB ((j : Int)) n), true), (decide ((j : Int) < (n : Int)), true)] (by kernel_rfl) (by kernel_rfl) ?_
 try simp only [qN]
 refine qF ?_ ?_ ?_ ?_ <| qA ?_ <| qZ
 . exact ob_inI (by omega)
 . assumption
 . exact ob_lt (by omega)
 . exact ob_idx (by omega)
 . exact ob_yes (by omega)
theorem ml_yes (n : Nat) (f : Nat -> It) (hn : n <= 1000000) (j : Nat) (hj : j < n) (h1 : ((f j).kind == 4) = true) (w : World) : S2.Sem (envMl n f) w 24 mlC (mlS n f j) (some none) (mlR) := by
 refine sem_iter (envMl_ok n f) (GlobOk.none w) (p := mlQR) (fuel := 1000) [true, true] [((f ((j : Int)).toNat).kind == 4, true), (pre (decide (((j : Int)).toNat < n)), true), (pre (idxB ((j : Int)) n), true), (decide ((j : Int) < (n : Int)), true)] (by kernel_rfl) (by kernel_rfl) ?_
 try simp only [qN]
 refine qF ?_ ?_ ?_ ?_ <| qZ
 . assumption
 . exact ob_lt (by omega)
 . exact ob_idx (by omega)
 . exact ob_yes (by omega)
theorem ml_end (n : Nat) (f : Nat -> It) (w : World) : S2.Sem (envMl n f) w 24 mlC (mlS n f n) (some (some 0)) (mlS n f n) := by
 refine sem_iter (envMl_ok n f) (GlobOk.none w) (p := mlQ) (fuel := 1000) [false] [(decide ((n : Int) < (n : Int)), false)] (by kernel_rfl) (by kernel_rfl) ?_
 try simp only [qN]
 refine qA ?_ <| qZ
 . exact ob_no (by omega)
theorem mayLay_ret (n : Nat) (f : Nat -> It) (hn : n <= 1000000) (hr : ∀ j, j < n -> wfIt (f j)) (w : World) (vals : List Value) (ha : ArgsOk w [.inr (itE n f)] vals) : LRet Tryd.prog 42 vals false [.inl (.bool (mayU n f))] w := by
 unfold mayU
 cases hb : fstN (fun j => (f j).kind == 4) n with
 | some j =>
   obtain ⟨hj, hbj, hpre⟩ := fst_some hb
   refine fn_ok (envMl_ok n f) (fuel := 1000) (d := 30) (plan := [⟨mlP, mlQ, some none, mlR⟩]) (orc := []) (fls := [[]]) (l := []) (tr := [⟨.loop mlC, mlS n f 0, some none, mlR⟩]) (by kernel_rfl) qZ Tryd.func42 w vals (GlobOk.none w) ha fun t ht => ?_
   obtain rfl := List.mem_singleton.mp ht
   exact sem_loop (mlS n f) j (by simp) (fun i hi => ml_no n f hn i (by omega) (hpre i hi) w) (ml_yes n f hn j hj hbj w)
 | none =>
   refine fn_ok (envMl_ok n f) (fuel := 1000) (d := 30) (plan := [⟨mlP, mlQ, some (some 0), mlS n f n⟩]) (orc := []) (fls := [[]]) (l := [(pre (propB (isItE (itE n f) n f /\ n <= 1000000 /\ ∀ j, j < n -> wfIt (f j))), true)]) (tr := [⟨.loop mlC, mlS n f 0, some (some 0), mlS n f n⟩]) (by kernel_rfl) (qA (propB_ok.mpr ⟨isItE_self n f (by omega), hn, hr⟩) qZ) Tryd.func42 w vals (GlobOk.none w) ha fun t ht => ?_
   obtain rfl := List.mem_singleton.mp ht
   exact sem_loop (mlS n f) n (by simp) (fun i hi => ml_no n f hn i hi (fst_none hb i hi) w) (ml_end n f w)
noncomputable def lMayL (n : Nat) (f : Nat -> It) : LTab := lrow 42 fun args => match args with
 | [.inr e] => some (false, [.inl (.bool (mayU n f))], pre (propB (isItE e n f /\ n <= 1000000 /\ ∀ j, j < n -> wfIt (f j))))
 | _ => none
theorem lMayL_ok (n : Nat) (f : Nat -> It) : LTabOk Tryd.prog (fun _ => none) (lMayL n f) := .row fun args tup res h w vals hG ha => by
 split at h
 . rename_i e
   simp only [qS, qP] at h
   obtain ⟨rfl, rfl, hp⟩ := h
   obtain ⟨h1, h2, h3⟩ := propB_ok.mp hp
   match vals, ha with
   | [u], ha => exact mayLay_ret n f h2 h3 w [u] ⟨InB.it ha.1 h1, trivial⟩
   | [], ha => exact ha.elim
   | _ :: _ :: _, ha => exact ha.2.elim
 . cases h
end Go.Proofs.YtilljoemebbnjaaDoor
