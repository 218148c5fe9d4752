/- Layer 9: the laws of checks and of loadings, walked. -/
import Derived.Test.YtpmjfpdogbcigaaDoorLoads09
import Derived.Test.YtpmjfpdogbcigaaDoorOpen09
namespace Go.Proofs.YtpmjfpdogbcigaaDoor
open Go.RowKit Sim S2
set_option linter.unusedVariables false
set_option linter.unusedSimpArgs false
noncomputable def unitV (n : Nat) (f : Nat → It) : Value := .tuple #[.int .i64 (unitR n f).1, .int .i64 (unitR n f).2]
noncomputable def lCkP (n : Nat) (f : Nat → It) : LTab := lrow 7 fun args => match args with
  | [.inr e] => some (false, [.inl (.tuple #[.int .i64 (unitR n f).1, .int .i64 (unitR n f).2])], pre (propB (isItE e n f ∧ ∀ j, j < n → wfIt (f j))))
  | _ => none
noncomputable def lCkR (n : Nat) (f : Nat → It) : LTab := lrow 8 fun args => match args with
  | [.inr e] => some (false, [.inl (.tuple #[.int .i64 (unitR n f).1, .int .i64 (unitR n f).2])], pre (propB (isItE e n f)))
  | _ => none
noncomputable def env9q (n : Nat) (f : Nat → It) : S2.Env := envk Tryd.prog gl9 true tAw9 noP (orL (lCkP n f) (lCkR n f))
theorem uc_big (n : Nat) (f : Nat → It) : S2.simF (env9q n f) 1000 10 [] [true] 3 [[]] [.inr (itE n f)] = some (false, [.inl (.bool true)], [(decide ((n : Int) > 300), true)], []) := by kernel_rfl
theorem uc_all (n : Nat) (f : Nat → It) : S2.simF (env9q n f) 1000 10 [] [false, true, true] 3 [[]] [.inr (itE n f)] = some (false, [.inl (.bool true)], [((unitR n f).snd == (unitR n f).snd, true), ((unitR n f).fst == (unitR n f).fst, true), (pre (propB (isItE (itE n f) n f)), true), (pre (propB (isItE (itE n f) n f ∧ ∀ (j : Nat), j < n → wfIt (f j))), true), (decide ((n : Int) > 300), false)], []) := by kernel_rfl
theorem lCkP_ok {gl : Gl} (n : Nat) (f : Nat → It) : LTabOk Tryd.prog gl (lCkP n f) := .row fun args tup res h w vals hG ha => by
  split at h
  · rename_i e
    simp only [Option.some.injEq, Prod.mk.injEq] at h
    obtain ⟨rfl, rfl, hp⟩ := h
    obtain ⟨h1, h2⟩ := propB_ok.mp hp
    match vals, ha with
    | [u], ha => exact unitCheck_ret n f h1.2.2.2 h2 w [u] ⟨InB.it ha.1 h1, trivial⟩
    | [], ha => exact ha.elim
    | _ :: _ :: _, ha => exact ha.2.elim
  · cases h
theorem lCkR_ok {gl : Gl} (n : Nat) (f : Nat → It) : LTabOk Tryd.prog gl (lCkR n f) := .row fun args tup res h w vals hG ha => by
  split at h
  · rename_i e
    simp only [Option.some.injEq, Prod.mk.injEq] at h
    obtain ⟨rfl, rfl, hp⟩ := h
    have h1 := propB_ok.mp hp
    match vals, ha with
    | [u], ha => exact refUnit_ret n f h1.2.2.2 w [u] ⟨InB.it ha.1 h1, trivial⟩
    | [], ha => exact ha.elim
    | _ :: _ :: _, ha => exact ha.2.elim
  · cases h
theorem env9q_ok (n : Nat) (f : Nat → It) : CallOk (env9q n f) := envk_ok (nw := true) tAw9_ok (.none _ _) ((lCkP_ok n f).or (lCkR_ok n f))
theorem unitChecks_ret (n : Nat) (f : Nat → It) (hf : ∀ j, j < n → wfIt (f j)) (w : World) (hG : GlobOk gl9 w) (vals : List Value) (ha : ArgsOk w [.inr (itE n f)] vals) : LRet Tryd.prog 3 vals false [.inl (.bool true)] w := by
  by_cases h : (n : Int) > 300
  · exact fn_ok (env9q_ok n f) (uc_big n f) (all_cons (ob_yes h) all_nil) Tryd.func3 w vals hG ha (fun t ht => by cases ht)
  · have hs := isItE_self n f (by omega)
    exact fn_ok (env9q_ok n f) (uc_all n f) (all_cons (by simp) <| all_cons (by simp) <| all_cons (propB_ok.mpr hs) <| all_cons (propB_ok.mpr ⟨hs, hf⟩) <| all_cons (ob_no h) all_nil) Tryd.func3 w vals hG ha (fun t ht => by cases ht)
theorem unitChecks_walk (n : Nat) (f : Nat → It) (w : World) (vals : List Value) (hG : GlobOk gl9 w) (hf : ∀ j, j < n → wfIt (f j)) (ha : ArgsOk w [.inr (itE n f)] vals) : Calls Tryd.prog 3 vals.toArray w (Holds w) :=
  (unitChecks_ret n f hf w hG vals ha).plain
theorem eq_regs {A B : Nat → Int} (h : ∀ k, k < 32 → A k = B k) : eqLZ (regL A) (regL B) = true := by
  have e : regL A = regL B := List.map_congr_left fun k hk => h k (List.mem_range.mp hk)
  rw [eqLZ_eq, e]; simp
theorem elL_mem {L : List In} {j : Nat} (hj : j < L.length) : elL L j ∈ L := by
  unfold elL; rw [List.getElem?_eq_getElem hj]; exact List.getElem_mem hj
theorem unitLoads_ret (rd n : Int) (X : Nat → Int) (hn : isI n) (w : World) (hG : GlobOk gl9 w) : Ret Tryd.prog 4 #[.int .i64 rd, .int .i64 n, regV X] (.bool true) w := by
  cases hr : isRegB rd
  · have hnr : pre (!isRegB rd) = true := by unfold pre; rw [hr]; rfl
    by_cases h0 : rd < 0
    · exact ret7 env9n_ok _ _ (uln_lo X rd n) (all_cons (ob_yes h0) <| all_cons hnr all_nil) Tryd.func4 w [.int .i64 rd, .int .i64 n, regV X] hG ⟨rfl, rfl, rfl, trivial⟩
    · have h1 : rd > 31 := by
        unfold isRegB at hr
        rw [Bool.and_eq_false_iff] at hr
        rcases hr with hr | hr
        · have := of_decide_eq_false hr; omega
        · have := of_decide_eq_false hr; omega
      exact ret7 env9n_ok _ _ (uln_hi X rd n) (all_cons (ob_yes h1) <| all_cons (ob_no h0) <| all_cons hnr all_nil) Tryd.func4 w [.int .i64 rd, .int .i64 n, regV X] hG ⟨rfl, rfl, rfl, trivial⟩
  · have hrr : 0 ≤ rd ∧ rd ≤ 31 := by
      unfold isRegB at hr
      rw [Bool.and_eq_true] at hr
      exact ⟨of_decide_eq_true hr.1, of_decide_eq_true hr.2⟩
    have hl : lvB 3 n = true := lvB_top hn 3 (Nat.le_refl _)
    have hgood : ∀ j, j < (LD rd n).length → goodI rd (elL (LD rd n) j) := fun j hj => ld_good 3 rd n hrr hl _ (elL_mem hj)
    have hlen : (LD rd n).length ≤ 8 := ldL_len (Nat.le_refl _) rd n
    have HC := env9w_ok (LD rd n) (regX X) (by omega) fun j hj => (hgood j hj).2.1
    have hok : okLD rd n = true := by unfold okLD pre; rw [hr, hl]; rfl
    have hloop : ∀ t ∈ [(⟨.loop ulC, ulS (LD rd n) X rd n 0, some (some 0), ulS (LD rd n) X rd n (LD rd n).length⟩ : S2.Told)], S2.Sem (env9w (LD rd n) (regX X)) w 101 t.c t.s t.x t.s' := fun t ht => by
      obtain rfl := List.mem_singleton.mp ht
      refine sem_loop (ulS (LD rd n) X rd n) (LD rd n).length (by simp) (fun j hj => ?_) (ul_end _ _ HC X rd n w hG)
      obtain ⟨g1, g2, g3, g4⟩ := hgood j hj
      cases h1 : (elL (LD rd n) j).op == 1
      · have h1' : ((elL (LD rd n) j).op != 1) = true := by unfold bne; rw [h1]; rfl
        rcases g4 with g4 | g4
        · rw [h1] at g4; cases g4
        · exact ul_tfftff _ _ HC (by omega) X rd n j hj g3 h1' g4 w hG
      · have h1' : ((elL (LD rd n) j).op != 1) = false := by unfold bne; rw [h1]; rfl
        exact ul_tfff _ _ HC (by omega) X rd n j hj g3 h1' w hG
    have hpr : pre (propB (isLs (lsE (LD rd n)) (LD rd n) ∧ regV (regX X) = regV (regX X))) = true := propB_ok.mpr ⟨⟨rfl, rfl, fun _ _ => rfl⟩, rfl⟩
    have hlt : decide (((LD rd n).length : Int) > 8) = false := ob_no (by omega)
    have hne : (((LD rd n).length : Int) != ((LD rd n).length : Int)) = false := by simp
    by_cases h0 : rd = 0
    · have hrun : runX (LD rd n) (regX X) = regX X := run_zero _ _ fun i hi => by rw [(ld_good 3 rd n hrr hl i hi).1, h0]
      refine (fn_ok HC (uly_0 X rd n) (all_cons (eq_regs fun k _ => by rw [does_run, hrun]) <| all_cons (by rw [h0]; rfl) <| all_cons hpr <| all_cons hlt <| all_cons hne <| all_cons hok <| all_cons (ob_no (by omega)) <| all_cons (ob_no (by omega)) <| all_cons hok all_nil) Tryd.func4 w [.int .i64 rd, .int .i64 n, regV X] hG ⟨rfl, rfl, rfl, trivial⟩ hloop).plain
    · have hrun : runX (LD rd n) (regX X) = putX rd n (regX X) := ld_run 3 rd n h0 hrr hl (regX X) rfl
      refine (fn_ok HC (uly_1 X rd n) (all_cons (eq_regs fun k _ => by rw [does_run, hrun]) <| all_cons (ob_idx (by omega)) <| all_cons (ob_idx (by omega)) <| all_cons (by simpa using h0) <| all_cons hpr <| all_cons hlt <| all_cons hne <| all_cons hok <| all_cons (ob_no (by omega)) <| all_cons (ob_no (by omega)) <| all_cons hok all_nil) Tryd.func4 w [.int .i64 rd, .int .i64 n, regV X] hG ⟨rfl, rfl, rfl, trivial⟩ hloop).plain
theorem isI_wf {n : Int} (h : (Lit.int .i64 n).wf = true) : isI n := by
  have h : (decide (IntKind.min .i64 ≤ n) && decide (n ≤ IntKind.max .i64)) = true := h
  rw [Bool.and_eq_true] at h
  exact ⟨of_decide_eq_true h.1, of_decide_eq_true h.2⟩
theorem unitLoads_walk (rd n : Int) (X : Nat → Int) (w : World) (hG : GlobOk gl9 w) (w0 : (Lit.int .i64 rd).wf = true) (w1 : (Lit.int .i64 n).wf = true) : Calls Tryd.prog 4 #[.int .i64 rd, .int .i64 n, regV X] w (Holds w) :=
  unitLoads_ret rd n X (isI_wf w1) w hG
end Go.Proofs.YtpmjfpdogbcigaaDoor
