/- The evaluator with lists answers what the call returns: all code. No word of the program. -/
import Derived.Test.YtpmjfpdogbcigaaDoorS2JC
namespace Go.Proofs.YtpmjfpdogbcigaaDoor.S2
open Go Go.RowKit Sim
set_option linter.unusedVariables false
set_option linter.unusedSimpArgs false

theorem simC_zero (E : Env) : simC E 0 = fun _ _ _ => none := rfl
theorem simC_succ (E : Env) (k n : Nat) (c : Code) (s : St) : simC E (k + 1) n c s = stepC E (simC E k) n c s := rfl
theorem simC_st (E : Env) : ∀ (fuel : Nat), RunSt (simC E fuel)
  | 0 => fun n c s x s' _ h => by rw [simC_zero] at h; cases h
  | k + 1 => fun n c s x s' hg h => by
    have ih := simC_st E k
    have hcl := enterS_st (E := E) ih
    rw [simC_succ] at h
    unfold stepC at h
    split at h
    · simp only [Option.some.injEq, Prod.mk.injEq] at h
      obtain ⟨_, rfl⟩ := h; exact ⟨Le.refl _, hg⟩
    · simp only [Option.some.injEq, Prod.mk.injEq] at h
      obtain ⟨_, rfl⟩ := h; exact ⟨Le.refl _, hg⟩
    · split at h
      · rename_i s1 hs
        simp only [Option.some.injEq, Prod.mk.injEq] at h
        obtain ⟨_, rfl⟩ := h
        obtain ⟨a, b, _⟩ := simOps_st hcl _ _ _ hg hs
        exact ⟨a, b⟩
      · cases h
    · rename_i id ops
      cases hb : (E.P.follows .mixedOrders && Region.lexB .any ops)
      · rw [hb] at h; cases h
      · rw [hb] at h
        simp only [cond_true] at h
        split at h
        · rename_i s1 hs
          simp only [Option.some.injEq, Prod.mk.injEq] at h
          obtain ⟨_, rfl⟩ := h
          obtain ⟨a, b, _⟩ := simOps_st hcl _ { s with mem := true } _ ⟨hg.lo, hg.llo, hg.ok, hg.okb⟩ hs
          exact ⟨⟨a.ext, a.len, a.llen, a.lo, a.llo, a.keep, a.lkeep⟩, b⟩
        · split at h
          · rename_i s1 hs
            simp only [Option.some.injEq, Prod.mk.injEq] at h
            obtain ⟨_, rfl⟩ := h
            obtain ⟨a, b, _⟩ := regionD_st hs ⟨hg.lo, hg.llo, hg.ok, hg.okb⟩
            exact ⟨⟨a.ext, a.len, a.llen, a.lo, a.llo, a.keep, a.lkeep⟩, b⟩
          · split at h
            · rename_i s1 hs
              simp only [Option.some.injEq, Prod.mk.injEq] at h
              obtain ⟨rfl, rfl⟩ := h
              obtain ⟨a, b, _⟩ := lastD_st hs ⟨hg.lo, hg.llo, hg.ok, hg.okb⟩
              exact ⟨⟨a.ext, a.len, a.llen, a.lo, a.llo, a.keep, a.lkeep⟩, b⟩
            · split at h
              · rename_i s1 hs
                simp only [Option.some.injEq, Prod.mk.injEq] at h
                obtain ⟨rfl, rfl⟩ := h
                obtain ⟨a, b, _⟩ := regionJ_st hs ⟨hg.lo, hg.llo, hg.ok, hg.okb⟩
                exact ⟨⟨a.ext, a.len, a.llen, a.lo, a.llo, a.keep, a.lkeep⟩, b⟩
              · cases h
    · split at h
      · rename_i s1 h1
        obtain ⟨l1, g1⟩ := ih _ _ _ _ _ hg h1
        obtain ⟨l2, g2⟩ := ih _ _ _ _ _ g1 h
        exact ⟨l1.trans l2, g2⟩
      · exact ih _ _ _ _ _ hg h
    · rename_i c c1 c2
      split at h
      · rename_i fl b hev
        split at h
        · rename_i s1 hask
          obtain ⟨b1, _, _, b4, _⟩ := askC_ok (n := n) hev hask
          obtain ⟨l1, g1⟩ := ih _ _ _ _ _ (b4 hg) h
          exact ⟨b1.trans l1, g1⟩
        · rename_i s1 hask
          obtain ⟨b1, _, _, b4, _⟩ := askC_ok (n := n) hev hask
          obtain ⟨l1, g1⟩ := ih _ _ _ _ _ (b4 hg) h
          exact ⟨b1.trans l1, g1⟩
      · cases h
    · split at h
      · rename_i i s1 h1
        obtain ⟨l1, g1⟩ := ih _ _ _ _ _ hg h1
        revert h
        cases Nat.beq i _ <;> intro h <;> simp only [cond_true, cond_false, Option.some.injEq, Prod.mk.injEq] at h <;> (obtain ⟨_, rfl⟩ := h; exact ⟨l1, g1⟩)
      · exact ih _ _ _ _ _ hg h
    · split at h
      · rename_i s1 h1
        obtain ⟨l1, g1⟩ := ih _ _ _ _ _ hg h1
        obtain ⟨l2, g2⟩ := ih _ _ _ _ _ g1 h
        exact ⟨l1.trans l2, g2⟩
      · exact ih _ _ _ _ _ hg h
    · simp only [Option.some.injEq, Prod.mk.injEq] at h
      obtain ⟨_, rfl⟩ := h; exact ⟨Le.refl _, hg⟩
    · simp only [Option.some.injEq, Prod.mk.injEq] at h
      obtain ⟨_, rfl⟩ := h; exact ⟨Le.refl _, hg⟩
    · cases h
theorem simC_ok {E : Env} (HC : CallOk E) {w0 : Base} (hG : GlobB E w0) : ∀ (fuel : Nat), RunOk E w0 fuel (simC E fuel)
  | 0 => fun n c s x s' _ h => by rw [simC_zero] at h; cases h
  | k + 1 => fun n c s x s' hg h hh Q ν a w ht hw hQ => by
    have st := simC_st E k
    have ih := simC_ok HC hG k
    have hst := enterS_st (E := E) st
    have hok := enterS_ok (E := E) HC hG st ih
    rw [simC_succ] at h
    unfold stepC at h
    split at h
    · simp only [Option.some.injEq, Prod.mk.injEq] at h
      obtain ⟨rfl, rfl⟩ := h
      exact wp_skip (hQ _ _ _ (Agree.refl _ _ _) ht hw)
    · simp only [Option.some.injEq, Prod.mk.injEq] at h
      obtain ⟨rfl, rfl⟩ := h
      exact wp_label (hQ _ _ _ (Agree.refl _ _ _) ht hw)
    · rename_i id ops
      split at h
      · rename_i s1 hs
        simp only [Option.some.injEq, Prod.mk.injEq] at h
        obtain ⟨rfl, rfl⟩ := h
        exact wp_region_list (simOps_wp HC hst hok hG _ _ _ hs hg hh ν a w ht hw hQ)
      · cases h
    · rename_i id ops
      cases hb : (E.P.follows .mixedOrders && Region.lexB .any ops)
      · rw [hb] at h; cases h
      · rw [hb] at h
        simp only [cond_true] at h
        simp only [Bool.and_eq_true] at hb
        split at h
        · rename_i s1 hs
          simp only [Option.some.injEq, Prod.mk.injEq] at h
          obtain ⟨rfl, rfl⟩ := h
          have hown := (simOps_st hst _ { s with mem := true } _ ⟨hg.lo, hg.llo, hg.ok, hg.okb⟩ hs).2.2 rfl
          refine wp_region_quiet (C := fun w => WR w0 ν s.own true w) hb.1 hb.2 hw.drew ?_
          exact simOps_quiet HC hst hok hG _ _ _ hs ⟨hg.lo, hg.llo, hg.ok, hg.okb⟩ hh rfl rfl a (ht.of rfl) fun e2 a' ht' w' hw' => hQ ν a' w' (Agree.refl _ _ _) ht' (by rw [hown, e2]; exact hw')
        · split at h
          · rename_i s1 hs
            simp only [Option.some.injEq, Prod.mk.injEq] at h
            obtain ⟨rfl, rfl⟩ := h
            have hmem := (regionD_st hs ⟨hg.lo, hg.llo, hg.ok, hg.okb⟩).2.2
            exact regionD_ok (ν0 := ν) HC hG hb.1 hs ⟨hg.lo, hg.llo, hg.ok, hg.okb⟩ hh (ht.of rfl) (hw.mem) fun ν' a' w' ha ht' hw' => hQ ν' a' w' ha ht' (by rw [hmem]; exact hw')
          · split at h
            · rename_i s1 hs
              simp only [Option.some.injEq, Prod.mk.injEq] at h
              obtain ⟨rfl, rfl⟩ := h
              have hmem := (lastD_st hs ⟨hg.lo, hg.llo, hg.ok, hg.okb⟩).2.2
              exact lastD_ok (ν0 := ν) HC hG hb.1 rfl hs ⟨hg.lo, hg.llo, hg.ok, hg.okb⟩ hh (ht.of rfl) (hw.mem) fun ν' a' w' ha ht' hw' => hQ ν' a' w' ha ht' (by rw [hmem]; exact hw')
            · split at h
              · rename_i s1 hs
                simp only [Option.some.injEq, Prod.mk.injEq] at h
                obtain ⟨rfl, rfl⟩ := h
                have hmem := (regionJ_st hs ⟨hg.lo, hg.llo, hg.ok, hg.okb⟩).2.2
                exact regionJ_ok (ν0 := ν) HC hG hb.1 hs ⟨hg.lo, hg.llo, hg.ok, hg.okb⟩ hh (ht.of rfl) (hw.mem) fun ν' a' w' ha ht' hw' => hQ ν' a' w' ha ht' (by rw [hmem]; exact hw')
              · cases h
    · rename_i c1 c2
      split at h
      · rename_i s1 h1
        obtain ⟨l1, g1⟩ := st _ _ _ _ _ hg h1
        obtain ⟨l2, g2⟩ := st _ _ _ _ _ g1 h
        exact wp_seq (ih _ _ _ _ _ hg h1 (l2.holds hh) _ ν a w ht hw fun ν' a' w' ha ht' hw' =>
          (ih _ _ _ _ _ g1 h hh Q ν' a' w' ht' hw' fun ν'' a'' w'' ha' => hQ ν'' a'' w'' (Agree.trans ha ha' l1.len l1.llen)).wp).wp
      · rename_i hne
        refine wp_seq (ih _ _ _ _ _ hg h hh _ ν a w ht hw fun ν' a' w' ha ht' hw' => ?_).wp
        rcases x with _ | _ | i
        · exact absurd h (hne _)
        · exact hQ _ _ _ ha ht' hw'
        · exact hQ _ _ _ ha ht' hw'
    · rename_i c c1 c2
      split at h
      · rename_i fl b hev
        split at h
        · rename_i s1 hask
          obtain ⟨b1, b2, b3, b4, b5⟩ := askC_ok (n := n) hev hask
          have g1 := b4 hg
          obtain ⟨l1, _⟩ := st _ _ _ _ _ g1 h
          obtain ⟨hb, ht1⟩ := b5 (l1.holds hh)
          exact wp_cond_true (by rw [eval_v ht hev, hb]) (ih _ _ _ _ _ g1 h hh Q ν a w (ht1 ν a ht) (by rw [b2, b3]; exact hw) fun ν' a' w' ha => hQ ν' a' w' (by rw [← b2]; exact ha)).wp
        · rename_i s1 hask
          obtain ⟨b1, b2, b3, b4, b5⟩ := askC_ok (n := n) hev hask
          have g1 := b4 hg
          obtain ⟨l1, _⟩ := st _ _ _ _ _ g1 h
          obtain ⟨hb, ht1⟩ := b5 (l1.holds hh)
          exact wp_cond_false (by rw [eval_v ht hev, hb]) (ih _ _ _ _ _ g1 h hh Q ν a w (ht1 ν a ht) (by rw [b2, b3]; exact hw) fun ν' a' w' ha => hQ ν' a' w' (by rw [← b2]; exact ha)).wp
      · cases h
    · rename_i id c1
      split at h
      · rename_i i s1 h1
        cases hb : Nat.beq i id
        · rw [hb] at h
          simp only [cond_false, Option.some.injEq, Prod.mk.injEq] at h
          obtain ⟨rfl, rfl⟩ := h
          have hne : i ≠ id := fun e => by rw [e] at hb; simp at hb
          refine wp_block (ih _ _ _ _ _ hg h1 hh _ ν a w ht hw fun ν' a' w' ha ht' hw' => ?_).wp
          simp only [X.toExit, Exit.inBlock, if_neg hne]
          exact hQ _ _ _ ha ht' hw'
        · rw [hb] at h
          simp only [cond_true, Option.some.injEq, Prod.mk.injEq] at h
          obtain ⟨rfl, rfl⟩ := h
          have heq : i = id := Nat.eq_of_beq_eq_true hb
          refine wp_block (ih _ _ _ _ _ hg h1 hh _ ν a w ht hw fun ν' a' w' ha ht' hw' => ?_).wp
          simp only [X.toExit, Exit.inBlock, if_pos heq]
          exact hQ _ _ _ ha ht' hw'
      · rename_i hne
        refine wp_block (ih _ _ _ _ _ hg h hh _ ν a w ht hw fun ν' a' w' ha ht' hw' => ?_).wp
        rcases x with _ | _ | i
        · exact hQ _ _ _ ha ht' hw'
        · exact hQ _ _ _ ha ht' hw'
        · exact absurd h (hne _ _)
    · rename_i c1
      split at h
      · rename_i s1 h1
        obtain ⟨l1, g1⟩ := st _ _ _ _ _ hg h1
        obtain ⟨l2, g2⟩ := st _ _ _ _ _ g1 h
        show Code.rounds _ _ _ (k + 1) _ _
        rw [rounds_succ]
        exact (ih _ _ _ _ _ hg h1 (l2.holds hh) _ ν a w ht hw fun ν' a' w' ha ht' hw' => ih _ _ _ _ _ g1 h hh Q ν' a' w' ht' hw' fun ν'' a'' w'' ha' => hQ ν'' a'' w'' (Agree.trans ha ha' l1.len l1.llen)).wp
      · rename_i hne
        show Code.rounds _ _ _ (k + 1) _ _
        rw [rounds_succ]
        refine (ih _ _ _ _ _ hg h hh _ ν a w ht hw fun ν' a' w' ha ht' hw' => ?_).wp
        rcases x with _ | _ | i
        · exact absurd h (hne _)
        · exact hQ _ _ _ ha ht' hw'
        · exact hQ _ _ _ ha ht' hw'
    · simp only [Option.some.injEq, Prod.mk.injEq] at h
      obtain ⟨rfl, rfl⟩ := h
      exact wp_exit (hQ _ _ _ (Agree.refl _ _ _) ht hw)
    · simp only [Option.some.injEq, Prod.mk.injEq] at h
      obtain ⟨rfl, rfl⟩ := h
      exact wp_ret (hQ _ _ _ (Agree.refl _ _ _) ht hw)
    · cases h

end Go.Proofs.YtpmjfpdogbcigaaDoor.S2
