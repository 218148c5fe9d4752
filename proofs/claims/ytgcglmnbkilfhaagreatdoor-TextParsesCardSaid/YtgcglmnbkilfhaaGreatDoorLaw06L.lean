/- The law of layer 6 on lists, out of a contract of text.Listing (lListing: shown elsewhere). -/
import Derived.Test.YtgcglmnbkilfhaaGreatDoorLaw06
import Derived.Test.YtgcglmnbkilfhaaGreatDoorInsE
namespace Go.Proofs.YtgcglmnbkilfhaaGreatDoor
open Go.RowKit Sim S2
set_option linter.unusedVariables false
set_option linter.unusedSimpArgs false

noncomputable def strE (n : Nat) (f : Nat → In) : LE := ⟨9, 1, n, fun j => [.string (textZ (f j))], true, false, true⟩
noncomputable def lListing (n : Nat) (f : Nat → In) : LTab := lrow 12 fun args => match args with
  | [.inr e] => some (false, [.inr (strE n f)], pre (propB (e = insE n f ∧ n ≤ 1000)))
  | _ => none
noncomputable def envTl (gl : Gl) (n : Nat) (f : Nat → In) : S2.Env := envq Tryz.prog gl (orT tRefText tAwake06) noP (lListing n f)
theorem envTl_ok {gl : Gl} (hT : TabOk Tryz.prog gl tText) (hP : PTabOk Tryz.prog gl pParse) {n : Nat} {f : Nat → In} (hL : LTabOk Tryz.prog gl (lListing n f)) : CallOk (envTl gl n f) := envq_ok (tRefText_ok.or (tAwake06_ok hT hP)) (.none _ _) hL
noncomputable def tlC : Code := codeAt (codeOf Tryz.prog 6) (0 :: [0, 1, 0, 1, 1, 1, 1])
noncomputable def tlSt (n : Nat) (f : Nat → In) (j : Nat) : S2.St := { tmps := [(0, .c 0), (3, .c 1), (4, .inl ([true], .int .i64 (j : Nat)))], own := ⟨[], [insE n f, strE n f]⟩, lo := 0, llo := 0, mem := true, orc := [], obl := [] }
theorem tl_step {gl : Gl} (hT : TabOk Tryz.prog gl tText) (hP : PTabOk Tryz.prog gl pParse) (n : Nat) (f : Nat → In) (hL : LTabOk Tryz.prog gl (lListing n f)) (hn : n ≤ 500) (j : Nat) (hj : j < n) (w : World) (hG : GlobOk gl w) : S2.Sem (envTl gl n f) w 33 tlC (tlSt n f j) none (tlSt n f (j + 1)) :=
  sem_iter (envTl_ok hT hP hL) hG (p := { ts := [0, 3, 4], bs := [], ls := [0, 1] }) (fuel := 1000) (s' := tlSt n f (j + 1)) [true, false]
    [(pre (inI ((j : Int) + 1)), true), (!(textZ (f j)).toList == (textZ (f j)).toList, false), (pre (decide (j < n)), true), (pre (idxB j n), true), (pre (decide (j < n)), true), (pre (idxB j n), true), (decide ((j : Int) < n), true)]
    (by kernel_rfl) (by kernel_rfl) (all_cons (ob_inI (by omega)) <| all_cons (by simp) <| all_cons (ob_lt hj) <| all_cons (ob_idx (by omega)) <| all_cons (ob_lt hj) <| all_cons (ob_idx (by omega)) <| all_cons (ob_yes (by omega)) all_nil)
theorem tl_last {gl : Gl} (hT : TabOk Tryz.prog gl tText) (hP : PTabOk Tryz.prog gl pParse) (n : Nat) (f : Nat → In) (hL : LTabOk Tryz.prog gl (lListing n f)) (w : World) (hG : GlobOk gl w) : S2.Sem (envTl gl n f) w 33 tlC (tlSt n f n) (some (some 0)) (tlSt n f n) :=
  sem_iter (envTl_ok hT hP hL) hG (p := { ts := [0, 3, 4], bs := [], ls := [0, 1] }) (fuel := 1000) (s' := tlSt n f n) [false] [(decide ((n : Int) < n), false)] (by kernel_rfl) (by kernel_rfl) (all_cons (ob_no (by omega)) all_nil)
theorem textLists_law {gl : Gl} (hT : TabOk Tryz.prog gl tText) (hP : PTabOk Tryz.prog gl pParse) (n : Nat) (f : Nat → In) (hL : LTabOk Tryz.prog gl (lListing n f)) (w : World) (vals : List Value) (hG : GlobOk gl w) (ha : ArgsOk w [.inr (insE n f)] vals) :
    LRet Tryz.prog 6 vals false [.inl (.bool true)] w := by
  by_cases hn : n > 500
  · exact fn_ok (envTl_ok hT hP hL) (fuel := 1000) (d := 30) (plan := []) (orc := [true]) (fls := [[]]) (l := [(decide ((n : Int) > 500), true)]) (tr := []) (by kernel_rfl)
      (all_cons (ob_yes (by omega)) all_nil) Tryz.func6 w vals hG ha fun t ht => by cases ht
  refine fn_ok (envTl_ok hT hP hL) (fuel := 1000) (d := 30) (plan := [⟨[0, 1, 0, 1, 1, 1, 1], { ts := [0, 3, 4], bs := [], ls := [0, 1], opn := [4] }, some (some 0), tlSt n f n⟩]) (orc := [false, false]) (fls := [[]])
    (l := [((n : Int) != n, false), (pre (propB (insE n f = insE n f ∧ n ≤ 1000)), true), (decide ((n : Int) > 500), false)]) (tr := [⟨.loop tlC, tlSt n f 0, some (some 0), tlSt n f n⟩]) (by kernel_rfl)
    (all_cons (by simp) <| all_cons (propB_ok.mpr ⟨rfl, by omega⟩) <| all_cons (ob_no (by omega)) all_nil) Tryz.func6 w vals hG ha fun t ht => ?_
  obtain rfl := List.mem_singleton.mp ht
  exact sem_loop (tlSt n f) n (by simp) (fun j hj => tl_step hT hP n f hL (by omega) j hj w hG) (tl_last hT hP n f hL w hG)
end Go.Proofs.YtgcglmnbkilfhaaGreatDoor
