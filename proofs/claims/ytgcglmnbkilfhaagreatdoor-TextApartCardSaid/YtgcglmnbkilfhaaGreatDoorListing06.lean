/- text.Listing as a loop that appends (written over a stand-in; to be fitted to the code as landed). -/
import Derived.Test.YtgcglmnbkilfhaaGreatDoorLaw06L
namespace Go.Proofs.YtgcglmnbkilfhaaGreatDoor
open Go.RowKit Sim S2
set_option linter.unusedVariables false
set_option linter.unusedSimpArgs false

noncomputable def envLs (gl : Gl) : S2.Env := envq Tryz.prog gl (orT tText tRefText) noP noL
theorem envLs_ok {gl : Gl} (hT : TabOk Tryz.prog gl tText) : CallOk (envLs gl) := envq_ok (hT.or tRefText_ok) (.none _ _) (.none _ _)
noncomputable def lsC : Code := codeAt (codeOf Tryz.prog 12) (0 :: [0, 1, 0, 1, 1])
noncomputable def lsSt (n : Nat) (f : Nat → In) (j : Nat) : S2.St := { tmps := [(3, .c 1), (6, .c 0), (7, .inl ([true], .int .i64 (n : Nat))), (8, .inl ([true], .int .i64 (j : Nat)))], own := ⟨[], [insE n f, strE j f]⟩, lo := 0, llo := 0, mem := true, orc := [], obl := [] }
noncomputable def lsP (f : Nat → In) : Pick := { ts := [3, 6, 7, 8], bs := [], ls := [0, 1], nil := [(3, 9, 1, (strE 0 f).el)], opn := [8] }
theorem ls_step {gl : Gl} (hT : TabOk Tryz.prog gl tText) (n : Nat) (f : Nat → In) (hn : n ≤ 1000) (j : Nat) (hj : j < n) (w : World) (hG : GlobOk gl w) : S2.Sem (envLs gl) w 19 lsC (lsSt n f j) none (lsSt n f (j + 1)) :=
  (sem_iter (envLs_ok hT) hG (p := { ts := [3, 6, 7, 8], bs := [], ls := [0, 2] }) (fuel := 1000) (s' := { lsSt n f (j + 1) with own := ⟨[], [insE n f, ⟨9, 1, j + 1, joinE j (strE j f).el (tabE [[.string (textZ (f j))]]), true, false, true⟩]⟩ }) [true]
    [(pre (inI ((j : Int) + 1)), true), (pre (decide (j + 1 ≤ maxLen ∧ (j + 1) * 16 ≤ 140737488355328 ∧ 0 < 1)), true), (pre (decide (j < n)), true), (pre (idxB j n), true), (decide ((j : Int) < n), true)]
    (by kernel_rfl) (by kernel_rfl) (all_cons (ob_inI (by omega)) <| all_cons (ob_app (by omega) (by decide) (by decide)) <| all_cons (ob_lt hj) <| all_cons (ob_idx (by omega)) <| all_cons (ob_yes (by omega)) all_nil)).same rfl rfl ⟨.refl _, ⟨rfl, rfl, rfl, rfl, rfl, joinE_one rfl⟩, trivial⟩ rfl
theorem ls_last {gl : Gl} (hT : TabOk Tryz.prog gl tText) (n : Nat) (f : Nat → In) (w : World) (hG : GlobOk gl w) : S2.Sem (envLs gl) w 19 lsC (lsSt n f n) (some (some 0)) (lsSt n f n) :=
  sem_iter (envLs_ok hT) hG (p := { ts := [3, 6, 7, 8], bs := [], ls := [0, 1] }) (fuel := 1000) (s' := lsSt n f n) [false] [(decide ((n : Int) < n), false)] (by kernel_rfl) (by kernel_rfl) (all_cons (ob_no (by omega)) all_nil)
theorem listing_ret {gl : Gl} (hT : TabOk Tryz.prog gl tText) (n : Nat) (f : Nat → In) (hn : n ≤ 1000) (w : World) (vals : List Value) (hG : GlobOk gl w) (ha : ArgsOk w [.inr (insE n f)] vals) : LRet Tryz.prog 12 vals false [.inr (strE n f)] w := by
  refine fn_ok (envLs_ok hT) (fuel := 1000) (d := 30) (plan := [⟨[0, 1, 0, 1, 1], lsP f, some (some 0), lsSt n f n⟩]) (orc := []) (fls := [[]]) (l := []) (tr := [⟨.loop lsC, lsSt n f 0, some (some 0), lsSt n f n⟩]) (by kernel_rfl) (fun _ h => by cases h) Tryz.func12 w vals hG ha fun t ht => ?_
  obtain rfl := List.mem_singleton.mp ht
  exact sem_loop (lsSt n f) n (by simp) (fun j hj => ls_step hT n f hn j hj w hG) (ls_last hT n f w hG)
theorem lListing_ok {gl : Gl} (hT : TabOk Tryz.prog gl tText) (n : Nat) (f : Nat → In) : LTabOk Tryz.prog gl (lListing n f) := .row fun args tup res h w vals hG ha => by
  split at h
  · rename_i e
    simp only [Option.some.injEq, Prod.mk.injEq] at h
    obtain ⟨rfl, rfl, hp⟩ := h
    obtain ⟨rfl, h1⟩ := propB_ok.mp hp
    exact listing_ret hT n f h1 w vals hG ha
  · cases h
end Go.Proofs.YtgcglmnbkilfhaaGreatDoor
