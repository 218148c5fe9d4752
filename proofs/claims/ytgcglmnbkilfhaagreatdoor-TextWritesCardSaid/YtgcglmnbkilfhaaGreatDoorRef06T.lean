/- The answer by definition for layer 6: any instruction's text. -/
import Derived.Test.YtgcglmnbkilfhaaGreatDoorRef06
namespace Go.Proofs.YtgcglmnbkilfhaaGreatDoor
open Go.RowKit Sim S2
set_option linter.unusedVariables false
set_option linter.unusedSimpArgs false

theorem refText_ret (i : In) (w : World) : Ret Tryz.prog 8 #[inV i] (.string (textZ i)) w := by
  cases hm : mayB i
  · refine (ret6 env6t_ok _ _ (tx_no i) (all_cons (by rw [hm]; rfl) all_nil) Tryz.func8 w [inV i] (GlobOk.none w) ⟨rfl, trivial⟩).of_eq ?_
    congr 1
    exact toL_inj (by rw [textZ_eq, hm]; rfl)
  have F := may_fld hm
  have hr := form_rng (may_ok hm)
  have hI := imm_rng F.im hr.1 hr.2
  have hs := imm_small hm
  have n0 := name_len (may_ok hm)
  have n1 := reg_len F.rd0 F.rd1
  have n2 := reg_len F.a0 F.a1
  have n3 := reg_len F.b0 F.b1
  have n4 := digL_len i.imm
  have o1 : pre (rg32B i.rd) = true := by unfold pre rg32B; exact decide_eq_true (by have := F.rd0; have := F.rd1; omega)
  have o2 : pre (rg32B i.a) = true := by unfold pre rg32B; exact decide_eq_true (by have := F.a0; have := F.a1; omega)
  have o3 : pre (rg32B i.b) = true := by unfold pre rg32B; exact decide_eq_true (by have := F.b0; have := F.b1; omega)
  have o4 : pre (i64B i.imm) = true := by unfold pre i64B; exact decide_eq_true (by omega)
  have on := F.aq
  have o5 : (!mayB i) = false := by rw [hm]; rfl
  have hk' : formZ i.op = 0 ∨ formZ i.op = 1 ∨ formZ i.op = 2 ∨ formZ i.op = 3 ∨ formZ i.op = 4 ∨ formZ i.op = 5 ∨ formZ i.op = 6 ∨ formZ i.op = 7 ∨ formZ i.op = 8 ∨ formZ i.op = 9 ∨ formZ i.op = 10 ∨ formZ i.op = 11 := by clear hI; omega
  clear F hr hs
  rcases hk' with e | e | e | e | e | e | e | e | e | e | e | e
  · obtain ⟨ha, hl⟩ := on (by rw [e]; rfl)
    refine (ret6 env6t_ok _ _ (tx_0 i) ?_ Tryz.func8 w [inV i] (GlobOk.none w) ⟨rfl, trivial⟩).of_eq ?_
    · (repeat refine all_cons (by
        first
          | assumption
          | (rw [e]; rfl)
          | (refine fit_ok ?_; simp only [toL_cat, toL_lit, numZ_eq, digZ_eq, sideZ_eq, List.length_append, List.length_cons, List.length_nil]; omega)) ?_)
      exact all_nil
    · congr 1
      refine toL_inj ?_
      simp only [textZ_eq, cond_true, cond_false, textL, headL, sfxL, toL_cat, toL_lit, numZ_eq, digZ_eq, sideZ_eq, hm, e, ha, hl]
      simp
  · obtain ⟨ha, hl⟩ := on (by rw [e]; rfl)
    refine (ret6 env6t_ok _ _ (tx_1 i) ?_ Tryz.func8 w [inV i] (GlobOk.none w) ⟨rfl, trivial⟩).of_eq ?_
    · (repeat refine all_cons (by
        first
          | assumption
          | (rw [e]; rfl)
          | (refine fit_ok ?_; simp only [toL_cat, toL_lit, numZ_eq, digZ_eq, sideZ_eq, List.length_append, List.length_cons, List.length_nil]; omega)) ?_)
      exact all_nil
    · congr 1
      refine toL_inj ?_
      simp only [textZ_eq, cond_true, cond_false, textL, headL, sfxL, toL_cat, toL_lit, numZ_eq, digZ_eq, sideZ_eq, hm, e, ha, hl, opsL_12 (.inl e)]
      simp
  · obtain ⟨ha, hl⟩ := on (by rw [e]; rfl)
    refine (ret6 env6t_ok _ _ (tx_2 i) ?_ Tryz.func8 w [inV i] (GlobOk.none w) ⟨rfl, trivial⟩).of_eq ?_
    · (repeat refine all_cons (by
        first
          | assumption
          | (rw [e]; rfl)
          | (refine fit_ok ?_; simp only [toL_cat, toL_lit, numZ_eq, digZ_eq, sideZ_eq, List.length_append, List.length_cons, List.length_nil]; omega)) ?_)
      exact all_nil
    · congr 1
      refine toL_inj ?_
      simp only [textZ_eq, cond_true, cond_false, textL, headL, sfxL, toL_cat, toL_lit, numZ_eq, digZ_eq, sideZ_eq, hm, e, ha, hl, opsL_12 (.inr e)]
      simp
  · obtain ⟨ha, hl⟩ := on (by rw [e]; rfl)
    cases h4 : i.op == 4
    · cases h5 : readZ i.op
      · refine (ret6 env6t_ok _ _ (tx_i i) ?_ Tryz.func8 w [inV i] (GlobOk.none w) ⟨rfl, trivial⟩).of_eq ?_
        · (repeat refine all_cons (by
            first
              | assumption
              | (rw [e]; rfl)
              | (refine fit_ok ?_; simp only [toL_cat, toL_lit, numZ_eq, digZ_eq, sideZ_eq, List.length_append, List.length_cons, List.length_nil]; omega)) ?_)
          exact all_nil
        · congr 1
          refine toL_inj ?_
          simp only [textZ_eq, cond_true, cond_false, textL, headL, sfxL, toL_cat, toL_lit, numZ_eq, digZ_eq, sideZ_eq, hm, e, ha, hl, opsL_imm (.inl e) (show (i.op == 4 || readZ i.op) = false by rw [h4, h5]; rfl)]
          simp
      · refine (ret6 env6t_ok _ _ (tx_m i) ?_ Tryz.func8 w [inV i] (GlobOk.none w) ⟨rfl, trivial⟩).of_eq ?_
        · (repeat refine all_cons (by
            first
              | assumption
              | (rw [e]; rfl)
              | (refine fit_ok ?_; simp only [toL_cat, toL_lit, numZ_eq, digZ_eq, sideZ_eq, List.length_append, List.length_cons, List.length_nil]; omega)) ?_)
          exact all_nil
        · congr 1
          refine toL_inj ?_
          simp only [textZ_eq, cond_true, cond_false, textL, headL, sfxL, toL_cat, toL_lit, numZ_eq, digZ_eq, sideZ_eq, hm, e, ha, hl, opsL_mem (.inl e) (show (i.op == 4 || readZ i.op) = true by rw [h4, h5]; rfl)]
          simp
    · refine (ret6 env6t_ok _ _ (tx_j i) ?_ Tryz.func8 w [inV i] (GlobOk.none w) ⟨rfl, trivial⟩).of_eq ?_
      · (repeat refine all_cons (by
          first
            | assumption
            | (rw [e]; rfl)
            | (refine fit_ok ?_; simp only [toL_cat, toL_lit, numZ_eq, digZ_eq, sideZ_eq, List.length_append, List.length_cons, List.length_nil]; omega)) ?_)
        exact all_nil
      · congr 1
        refine toL_inj ?_
        simp only [textZ_eq, cond_true, cond_false, textL, headL, sfxL, toL_cat, toL_lit, numZ_eq, digZ_eq, sideZ_eq, hm, e, ha, hl, opsL_mem (.inl e) (show (i.op == 4 || readZ i.op) = true by rw [h4]; rfl)]
        simp
  · obtain ⟨ha, hl⟩ := on (by rw [e]; rfl)
    refine (ret6 env6t_ok _ _ (tx_4 i) ?_ Tryz.func8 w [inV i] (GlobOk.none w) ⟨rfl, trivial⟩).of_eq ?_
    · (repeat refine all_cons (by
        first
          | assumption
          | (rw [e]; rfl)
          | (refine fit_ok ?_; simp only [toL_cat, toL_lit, numZ_eq, digZ_eq, sideZ_eq, List.length_append, List.length_cons, List.length_nil]; omega)) ?_)
      exact all_nil
    · congr 1
      refine toL_inj ?_
      simp only [textZ_eq, cond_true, cond_false, textL, headL, sfxL, toL_cat, toL_lit, numZ_eq, digZ_eq, sideZ_eq, hm, e, ha, hl, opsL_4 e]
      simp
  · obtain ⟨ha, hl⟩ := on (by rw [e]; rfl)
    refine (ret6 env6t_ok _ _ (tx_5 i) ?_ Tryz.func8 w [inV i] (GlobOk.none w) ⟨rfl, trivial⟩).of_eq ?_
    · (repeat refine all_cons (by
        first
          | assumption
          | (rw [e]; rfl)
          | (refine fit_ok ?_; simp only [toL_cat, toL_lit, numZ_eq, digZ_eq, sideZ_eq, List.length_append, List.length_cons, List.length_nil]; omega)) ?_)
      exact all_nil
    · congr 1
      refine toL_inj ?_
      simp only [textZ_eq, cond_true, cond_false, textL, headL, sfxL, toL_cat, toL_lit, numZ_eq, digZ_eq, sideZ_eq, hm, e, ha, hl, opsL_5 e]
      simp
  · obtain ⟨ha, hl⟩ := on (by rw [e]; rfl)
    refine (ret6 env6t_ok _ _ (tx_6 i) ?_ Tryz.func8 w [inV i] (GlobOk.none w) ⟨rfl, trivial⟩).of_eq ?_
    · (repeat refine all_cons (by
        first
          | assumption
          | (rw [e]; rfl)
          | (refine fit_ok ?_; simp only [toL_cat, toL_lit, numZ_eq, digZ_eq, sideZ_eq, List.length_append, List.length_cons, List.length_nil]; omega)) ?_)
      exact all_nil
    · congr 1
      refine toL_inj ?_
      simp only [textZ_eq, cond_true, cond_false, textL, headL, sfxL, toL_cat, toL_lit, numZ_eq, digZ_eq, sideZ_eq, hm, e, ha, hl, opsL_6 e]
      simp
  · obtain ⟨ha, hl⟩ := on (by rw [e]; rfl)
    cases h4 : i.op == 4
    · cases h5 : readZ i.op
      · refine (ret6 env6t_ok _ _ (tx_i i) ?_ Tryz.func8 w [inV i] (GlobOk.none w) ⟨rfl, trivial⟩).of_eq ?_
        · (repeat refine all_cons (by
            first
              | assumption
              | (rw [e]; rfl)
              | (refine fit_ok ?_; simp only [toL_cat, toL_lit, numZ_eq, digZ_eq, sideZ_eq, List.length_append, List.length_cons, List.length_nil]; omega)) ?_)
          exact all_nil
        · congr 1
          refine toL_inj ?_
          simp only [textZ_eq, cond_true, cond_false, textL, headL, sfxL, toL_cat, toL_lit, numZ_eq, digZ_eq, sideZ_eq, hm, e, ha, hl, opsL_imm (.inr (.inl e)) (show (i.op == 4 || readZ i.op) = false by rw [h4, h5]; rfl)]
          simp
      · refine (ret6 env6t_ok _ _ (tx_m i) ?_ Tryz.func8 w [inV i] (GlobOk.none w) ⟨rfl, trivial⟩).of_eq ?_
        · (repeat refine all_cons (by
            first
              | assumption
              | (rw [e]; rfl)
              | (refine fit_ok ?_; simp only [toL_cat, toL_lit, numZ_eq, digZ_eq, sideZ_eq, List.length_append, List.length_cons, List.length_nil]; omega)) ?_)
          exact all_nil
        · congr 1
          refine toL_inj ?_
          simp only [textZ_eq, cond_true, cond_false, textL, headL, sfxL, toL_cat, toL_lit, numZ_eq, digZ_eq, sideZ_eq, hm, e, ha, hl, opsL_mem (.inr (.inl e)) (show (i.op == 4 || readZ i.op) = true by rw [h4, h5]; rfl)]
          simp
    · refine (ret6 env6t_ok _ _ (tx_j i) ?_ Tryz.func8 w [inV i] (GlobOk.none w) ⟨rfl, trivial⟩).of_eq ?_
      · (repeat refine all_cons (by
          first
            | assumption
            | (rw [e]; rfl)
            | (refine fit_ok ?_; simp only [toL_cat, toL_lit, numZ_eq, digZ_eq, sideZ_eq, List.length_append, List.length_cons, List.length_nil]; omega)) ?_)
        exact all_nil
      · congr 1
        refine toL_inj ?_
        simp only [textZ_eq, cond_true, cond_false, textL, headL, sfxL, toL_cat, toL_lit, numZ_eq, digZ_eq, sideZ_eq, hm, e, ha, hl, opsL_mem (.inr (.inl e)) (show (i.op == 4 || readZ i.op) = true by rw [h4]; rfl)]
        simp
  · obtain ⟨ha, hl⟩ := on (by rw [e]; rfl)
    cases h4 : i.op == 4
    · cases h5 : readZ i.op
      · refine (ret6 env6t_ok _ _ (tx_i i) ?_ Tryz.func8 w [inV i] (GlobOk.none w) ⟨rfl, trivial⟩).of_eq ?_
        · (repeat refine all_cons (by
            first
              | assumption
              | (rw [e]; rfl)
              | (refine fit_ok ?_; simp only [toL_cat, toL_lit, numZ_eq, digZ_eq, sideZ_eq, List.length_append, List.length_cons, List.length_nil]; omega)) ?_)
          exact all_nil
        · congr 1
          refine toL_inj ?_
          simp only [textZ_eq, cond_true, cond_false, textL, headL, sfxL, toL_cat, toL_lit, numZ_eq, digZ_eq, sideZ_eq, hm, e, ha, hl, opsL_imm (.inr (.inr e)) (show (i.op == 4 || readZ i.op) = false by rw [h4, h5]; rfl)]
          simp
      · refine (ret6 env6t_ok _ _ (tx_m i) ?_ Tryz.func8 w [inV i] (GlobOk.none w) ⟨rfl, trivial⟩).of_eq ?_
        · (repeat refine all_cons (by
            first
              | assumption
              | (rw [e]; rfl)
              | (refine fit_ok ?_; simp only [toL_cat, toL_lit, numZ_eq, digZ_eq, sideZ_eq, List.length_append, List.length_cons, List.length_nil]; omega)) ?_)
          exact all_nil
        · congr 1
          refine toL_inj ?_
          simp only [textZ_eq, cond_true, cond_false, textL, headL, sfxL, toL_cat, toL_lit, numZ_eq, digZ_eq, sideZ_eq, hm, e, ha, hl, opsL_mem (.inr (.inr e)) (show (i.op == 4 || readZ i.op) = true by rw [h4, h5]; rfl)]
          simp
    · refine (ret6 env6t_ok _ _ (tx_j i) ?_ Tryz.func8 w [inV i] (GlobOk.none w) ⟨rfl, trivial⟩).of_eq ?_
      · (repeat refine all_cons (by
          first
            | assumption
            | (rw [e]; rfl)
            | (refine fit_ok ?_; simp only [toL_cat, toL_lit, numZ_eq, digZ_eq, sideZ_eq, List.length_append, List.length_cons, List.length_nil]; omega)) ?_)
        exact all_nil
      · congr 1
        refine toL_inj ?_
        simp only [textZ_eq, cond_true, cond_false, textL, headL, sfxL, toL_cat, toL_lit, numZ_eq, digZ_eq, sideZ_eq, hm, e, ha, hl, opsL_mem (.inr (.inr e)) (show (i.op == 4 || readZ i.op) = true by rw [h4]; rfl)]
        simp
  · obtain ⟨ha, hl⟩ := on (by rw [e]; rfl)
    have h9 : 0 ≤ i.imm ∧ i.imm < 256 := by unfold immRg at hI; rw [e] at hI; simp at hI; omega
    have d1 : IntKind.i64.wrap (i.imm.tdiv 16) = i.imm / 16 := by
      rw [Int.tdiv_eq_ediv_of_nonneg h9.1]
      exact wrap_in (by unfold inI; exact decide_eq_true (by omega))
    have d2 : i.imm.tmod 16 = i.imm % 16 := Int.tmod_eq_emod_of_nonneg h9.1
    have s1 := side_len (r := i.imm / 16) (by omega) (by omega)
    have s2 := side_len (r := i.imm % 16) (by omega) (by omega)
    have o6 : pre (sixB (IntKind.i64.wrap (i.imm.tdiv 16))) = true := by unfold pre sixB; rw [d1]; exact decide_eq_true (by omega)
    have o7 : pre (sixB (i.imm.tmod 16)) = true := by unfold pre sixB; rw [d2]; exact decide_eq_true (by omega)
    have s3 : (sideL (IntKind.i64.wrap (i.imm.tdiv 16))).length ≤ 4 := by rw [d1]; exact s1
    have s4 : (sideL (i.imm.tmod 16)).length ≤ 4 := by rw [d2]; exact s2
    refine (ret6 env6t_ok _ _ (tx_9 i) ?_ Tryz.func8 w [inV i] (GlobOk.none w) ⟨rfl, trivial⟩).of_eq ?_
    · (repeat refine all_cons (by
        first
          | assumption
          | (rw [e]; rfl)
          | (refine fit_ok ?_; simp only [toL_cat, toL_lit, numZ_eq, digZ_eq, sideZ_eq, List.length_append, List.length_cons, List.length_nil]; omega)) ?_)
      exact all_nil
    · congr 1
      refine toL_inj ?_
      simp only [textZ_eq, cond_true, cond_false, textL, headL, sfxL, toL_cat, toL_lit, numZ_eq, digZ_eq, sideZ_eq, hm, e, ha, hl, d1, d2, opsL_9 e]
      simp
  · cases ha : i.aq <;> cases hl : i.rl
    · refine (ret6 env6t_ok _ _ (tx_10 i) ?_ Tryz.func8 w [inV i] (GlobOk.none w) ⟨rfl, trivial⟩).of_eq ?_
      · (repeat refine all_cons (by
          first
            | assumption
            | (rw [e]; rfl)
            | (refine fit_ok ?_; simp only [toL_cat, toL_lit, numZ_eq, digZ_eq, sideZ_eq, List.length_append, List.length_cons, List.length_nil]; omega)) ?_)
        exact all_nil
      · congr 1
        refine toL_inj ?_
        simp only [textZ_eq, cond_true, cond_false, textL, headL, sfxL, toL_cat, toL_lit, numZ_eq, digZ_eq, sideZ_eq, hm, e, ha, hl, opsL_10 e]
        simp
    · refine (ret6 env6t_ok _ _ (tx_10r i) ?_ Tryz.func8 w [inV i] (GlobOk.none w) ⟨rfl, trivial⟩).of_eq ?_
      · (repeat refine all_cons (by
          first
            | assumption
            | (rw [e]; rfl)
            | (refine fit_ok ?_; simp only [toL_cat, toL_lit, numZ_eq, digZ_eq, sideZ_eq, List.length_append, List.length_cons, List.length_nil]; omega)) ?_)
        exact all_nil
      · congr 1
        refine toL_inj ?_
        simp only [textZ_eq, cond_true, cond_false, textL, headL, sfxL, toL_cat, toL_lit, numZ_eq, digZ_eq, sideZ_eq, hm, e, ha, hl, opsL_10 e]
        simp
    · refine (ret6 env6t_ok _ _ (tx_10a i) ?_ Tryz.func8 w [inV i] (GlobOk.none w) ⟨rfl, trivial⟩).of_eq ?_
      · (repeat refine all_cons (by
          first
            | assumption
            | (rw [e]; rfl)
            | (refine fit_ok ?_; simp only [toL_cat, toL_lit, numZ_eq, digZ_eq, sideZ_eq, List.length_append, List.length_cons, List.length_nil]; omega)) ?_)
        exact all_nil
      · congr 1
        refine toL_inj ?_
        simp only [textZ_eq, cond_true, cond_false, textL, headL, sfxL, toL_cat, toL_lit, numZ_eq, digZ_eq, sideZ_eq, hm, e, ha, hl, opsL_10 e]
        simp
    · refine (ret6 env6t_ok _ _ (tx_10q i) ?_ Tryz.func8 w [inV i] (GlobOk.none w) ⟨rfl, trivial⟩).of_eq ?_
      · (repeat refine all_cons (by
          first
            | assumption
            | (rw [e]; rfl)
            | (refine fit_ok ?_; simp only [toL_cat, toL_lit, numZ_eq, digZ_eq, sideZ_eq, List.length_append, List.length_cons, List.length_nil]; omega)) ?_)
        exact all_nil
      · congr 1
        refine toL_inj ?_
        simp only [textZ_eq, cond_true, cond_false, textL, headL, sfxL, toL_cat, toL_lit, numZ_eq, digZ_eq, sideZ_eq, hm, e, ha, hl, opsL_10 e]
        simp
  · cases ha : i.aq <;> cases hl : i.rl
    · refine (ret6 env6t_ok _ _ (tx_11 i) ?_ Tryz.func8 w [inV i] (GlobOk.none w) ⟨rfl, trivial⟩).of_eq ?_
      · (repeat refine all_cons (by
          first
            | assumption
            | (rw [e]; rfl)
            | (refine fit_ok ?_; simp only [toL_cat, toL_lit, numZ_eq, digZ_eq, sideZ_eq, List.length_append, List.length_cons, List.length_nil]; omega)) ?_)
        exact all_nil
      · congr 1
        refine toL_inj ?_
        simp only [textZ_eq, cond_true, cond_false, textL, headL, sfxL, toL_cat, toL_lit, numZ_eq, digZ_eq, sideZ_eq, hm, e, ha, hl, opsL_11 e]
        simp
    · refine (ret6 env6t_ok _ _ (tx_11r i) ?_ Tryz.func8 w [inV i] (GlobOk.none w) ⟨rfl, trivial⟩).of_eq ?_
      · (repeat refine all_cons (by
          first
            | assumption
            | (rw [e]; rfl)
            | (refine fit_ok ?_; simp only [toL_cat, toL_lit, numZ_eq, digZ_eq, sideZ_eq, List.length_append, List.length_cons, List.length_nil]; omega)) ?_)
        exact all_nil
      · congr 1
        refine toL_inj ?_
        simp only [textZ_eq, cond_true, cond_false, textL, headL, sfxL, toL_cat, toL_lit, numZ_eq, digZ_eq, sideZ_eq, hm, e, ha, hl, opsL_11 e]
        simp
    · refine (ret6 env6t_ok _ _ (tx_11a i) ?_ Tryz.func8 w [inV i] (GlobOk.none w) ⟨rfl, trivial⟩).of_eq ?_
      · (repeat refine all_cons (by
          first
            | assumption
            | (rw [e]; rfl)
            | (refine fit_ok ?_; simp only [toL_cat, toL_lit, numZ_eq, digZ_eq, sideZ_eq, List.length_append, List.length_cons, List.length_nil]; omega)) ?_)
        exact all_nil
      · congr 1
        refine toL_inj ?_
        simp only [textZ_eq, cond_true, cond_false, textL, headL, sfxL, toL_cat, toL_lit, numZ_eq, digZ_eq, sideZ_eq, hm, e, ha, hl, opsL_11 e]
        simp
    · refine (ret6 env6t_ok _ _ (tx_11q i) ?_ Tryz.func8 w [inV i] (GlobOk.none w) ⟨rfl, trivial⟩).of_eq ?_
      · (repeat refine all_cons (by
          first
            | assumption
            | (rw [e]; rfl)
            | (refine fit_ok ?_; simp only [toL_cat, toL_lit, numZ_eq, digZ_eq, sideZ_eq, List.length_append, List.length_cons, List.length_nil]; omega)) ?_)
        exact all_nil
      · congr 1
        refine toL_inj ?_
        simp only [textZ_eq, cond_true, cond_false, textL, headL, sfxL, toL_cat, toL_lit, numZ_eq, digZ_eq, sideZ_eq, hm, e, ha, hl, opsL_11 e]
        simp
end Go.Proofs.YtgcglmnbkilfhaaGreatDoor
