/- Contracts of package image: Check. -/
import Derived.Test.YtimgongaenpgkaaDoorWm08
import Derived.Test.YtimgongaenpgkaaDoorSame08
namespace Go.Proofs.YtimgongaenpgkaaDoor
open Go.RowKit Sim S2
set_option linter.unusedVariables false
set_option linter.unusedSimpArgs false

def ckS (i : Im) (j : Nat) : S2.St := { tmps := [(1, .inr (0, 0, none)), (32, .c 2), (33, .inl ([true], .int .i64 i.h)), (34, .inl ([true], .int .i64 j))], own := ⟨[imB], imLs i⟩, lo := 0, llo := 0, mem := true, orc := [], obl := [] }
def ckPath : List Nat := [0, 1, 0, 1, 1, 1]
noncomputable def ckC : Code := codeAt (codeOf Tryd.prog 18) (0 :: ckPath)
def ckP : Pick := { ts := [1, 32, 33, 34], bs := [0], ls := [0, 1, 2], opn := [34] }
theorem ck_step (i : Im) (hh : i.h ≤ 1000000000000) (hn : i.n ≤ 1000000000000) (j : Nat) (hj : j < i.h) (hb : badE i j = false) (w : World) : S2.Sem env8 w 48 ckC (ckS i j) none (ckS i (j + 1)) := by
  unfold badE at hb
  have hb := of_decide_eq_false hb
  refine sem_iter env8_ok (GlobOk.none w) (p := ckP) (fuel := 1000) [true, false, false]
    [(pre (inI ((j : Int) + 1)), true), (decide (i.e ((j : Int).toNat) ≥ (i.n : Int)), false), (decide (i.e ((j : Int).toNat) < 0), false), (pre (decide ((j : Int).toNat < i.h)), true), (pre (idxB (j : Int) i.h), true), (decide ((j : Int) < (i.h : Int)), true)]
    (by kernel_rfl) (by kernel_rfl) ?_
  rw [Int.toNat_natCast]
  exact all_cons (ob_inI (by omega)) <| all_cons (ob_no (by omega)) <| all_cons (ob_no (by omega)) <| all_cons (ob_lt hj) <| all_cons (ob_idx (by omega)) <| all_cons (ob_yes (by omega)) all_nil
theorem ck_end (i : Im) (w : World) : S2.Sem env8 w 48 ckC (ckS i i.h) (some (some 0)) (ckS i i.h) :=
  sem_iter env8_ok (GlobOk.none w) (p := ckP) (fuel := 1000) [false] [(decide ((i.h : Int) < i.h), false)] (by kernel_rfl) (by kernel_rfl) (all_cons (ob_no (by omega)) all_nil)
theorem ck_bad (i : Im) (hh : i.h ≤ 1000000000000) (hn : i.n ≤ 1000000000000) (j : Nat) (hj : j < i.h) (hb : badE i j = true) (w : World) : S2.Sem env8 w 48 ckC (ckS i j) (some none) rkR := by
  unfold badE at hb
  have hb := of_decide_eq_true hb
  by_cases h0 : i.e j < 0
  · refine sem_iter env8_ok (GlobOk.none w) (p := { ts := [2], bs := [], ls := [] }) (fuel := 1000) [true, true] [(decide (i.e ((j : Int).toNat) < 0), true), (pre (decide ((j : Int).toNat < i.h)), true), (pre (idxB (j : Int) i.h), true), (decide ((j : Int) < (i.h : Int)), true)] (by kernel_rfl) (by kernel_rfl) ?_
    rw [Int.toNat_natCast]
    exact all_cons (ob_yes h0) <| all_cons (ob_lt hj) <| all_cons (ob_idx (by omega)) <| all_cons (ob_yes (by omega)) all_nil
  · refine sem_iter env8_ok (GlobOk.none w) (p := { ts := [2], bs := [], ls := [] }) (fuel := 1000) [true, false, true] [(decide (i.e ((j : Int).toNat) ≥ (i.n : Int)), true), (decide (i.e ((j : Int).toNat) < 0), false), (pre (decide ((j : Int).toNat < i.h)), true), (pre (idxB (j : Int) i.h), true), (decide ((j : Int) < (i.h : Int)), true)] (by kernel_rfl) (by kernel_rfl) ?_
    rw [Int.toNat_natCast]
    exact all_cons (ob_yes (by omega)) <| all_cons (ob_no h0) <| all_cons (ob_lt hj) <| all_cons (ob_idx (by omega)) <| all_cons (ob_yes (by omega)) all_nil
theorem eq0_no {n : Nat} (h : ¬ n < 1) : ((n : Int) == 0) = false := by simp; omega
theorem eq0_yes {n : Nat} (h : n < 1) : ((n : Int) == 0) = true := by simp; omega
theorem check_ret (o : Bool) (i : Im) (hn : i.n ≤ 1000000000000) (hm : i.m ≤ 1000000000000) (hh : i.h ≤ 1000000000000) (w : World) (vals : List Value) (ha : ArgsOk w [imX o i] vals) : LRet Tryd.prog 18 vals false [.inl (.int .i64 (imE i))] w := by
  have hG := GlobOk.none w
  unfold imE
  by_cases c1 : i.n > 262144
  · rw [if_pos (.inl c1)]
    exact fn_ok env8_ok (fuel := 1000) (d := 30) (plan := []) (orc := [true]) (fls := [[]]) (l := [(decide ((i.n : Int) > 262144), true)]) (tr := []) (by kernel_rfl) (all_cons (ob_yes (by omega)) all_nil) Tryd.func18 w vals hG ha fun t ht => by cases ht
  by_cases c2 : i.m > 4096
  · rw [if_pos (.inr c2)]
    exact fn_ok env8_ok (fuel := 1000) (d := 30) (plan := []) (orc := [false, true]) (fls := [[]]) (l := [(decide ((i.m : Int) > 4096), true), (decide ((i.n : Int) > 262144), false)]) (tr := []) (by kernel_rfl) (all_cons (ob_yes (by omega)) <| all_cons (ob_no (by omega)) all_nil) Tryd.func18 w vals hG ha fun t ht => by cases ht
  rw [if_neg (by omega)]
  have T2 := all_cons (ob_no (show ¬ (i.m : Int) > 4096 by omega)) <| all_cons (ob_no (show ¬ (i.n : Int) > 262144 by omega)) all_nil
  by_cases c3 : i.n < 1
  · rw [if_pos (.inl c3)]
    exact fn_ok env8_ok (fuel := 1000) (d := 30) (plan := []) (orc := [false, false, true]) (fls := [[]]) (l := [((i.n : Int) == 0, true), (decide ((i.m : Int) > 4096), false), (decide ((i.n : Int) > 262144), false)]) (tr := []) (by kernel_rfl) (all_cons (eq0_yes c3) T2) Tryd.func18 w vals hG ha fun t ht => by cases ht
  by_cases c4 : i.h < 1
  · rw [if_pos (.inr (.inl c4))]
    exact fn_ok env8_ok (fuel := 1000) (d := 30) (plan := []) (orc := [false, false, false, true]) (fls := [[]]) (l := [((i.h : Int) == 0, true), ((i.n : Int) == 0, false), (decide ((i.m : Int) > 4096), false), (decide ((i.n : Int) > 262144), false)]) (tr := []) (by kernel_rfl) (all_cons (eq0_yes c4) <| all_cons (eq0_no c3) T2) Tryd.func18 w vals hG ha fun t ht => by cases ht
  by_cases c5 : i.h > 8
  · rw [if_pos (.inr (.inr c5))]
    exact fn_ok env8_ok (fuel := 1000) (d := 30) (plan := []) (orc := [false, false, false, false, true]) (fls := [[]]) (l := [(decide ((i.h : Int) > 8), true), ((i.h : Int) == 0, false), ((i.n : Int) == 0, false), (decide ((i.m : Int) > 4096), false), (decide ((i.n : Int) > 262144), false)]) (tr := []) (by kernel_rfl) (all_cons (ob_yes (by omega)) <| all_cons (eq0_no c4) <| all_cons (eq0_no c3) T2) Tryd.func18 w vals hG ha fun t ht => by cases ht
  rw [if_neg (by omega)]
  have T := all_cons (ob_no (show ¬ (i.h : Int) > 8 by omega)) <| all_cons (eq0_no c4) <| all_cons (eq0_no c3) T2
  cases hb : (List.range i.h).any (badE i)
  · rw [if_neg (by simp)]
    refine fn_ok env8_ok (fuel := 1000) (d := 30) (plan := [⟨ckPath, ckP, some (some 0), ckS i i.h⟩]) (orc := [false, false, false, false, false]) (fls := [[]]) (tr := [⟨.loop ckC, ckS i 0, some (some 0), ckS i i.h⟩]) (by kernel_rfl) T Tryd.func18 w vals hG ha fun t ht => ?_
    obtain rfl := List.mem_singleton.mp ht
    rw [List.any_eq_false] at hb
    exact sem_loop (ckS i) i.h (by simp) (fun j hj => ck_step i hh hn j hj (by simpa using hb j (List.mem_range.mpr hj)) w) (ck_end i w)
  · rw [if_pos rfl]
    obtain ⟨k, hk, hbk, hpre⟩ := first_bad _ _ hb
    refine fn_ok env8_ok (fuel := 1000) (d := 30) (plan := [⟨ckPath, ckP, some none, rkR⟩]) (orc := [false, false, false, false, false]) (fls := [[]]) (tr := [⟨.loop ckC, ckS i 0, some none, rkR⟩]) (by kernel_rfl) T Tryd.func18 w vals hG ha fun t ht => ?_
    obtain rfl := List.mem_singleton.mp ht
    exact sem_loop (ckS i) k (by simp) (fun j hj => ck_step i hh hn j (by omega) (hpre j hj) w) (ck_bad i hh hn k hk hbk w)
noncomputable def lCheck (i : Im) : LTab := lrow 18 fun args => match args with
  | [.st cs] => some (false, [.inl (.int .i64 (imE i))], pre (propB (isIm i cs ∧ smallIm i)))
  | _ => none
theorem lCheck_ok {gl : Nat → Option (List Value)} (i : Im) : LTabOk Tryd.prog gl (lCheck i) := .row fun args tup res h w vals hG ha => by
  split at h
  · rename_i cs
    simp only [Option.some.injEq, Prod.mk.injEq] at h
    obtain ⟨rfl, rfl, hp⟩ := h
    obtain ⟨h1, h2, h3, h4⟩ := propB_ok.mp hp
    obtain ⟨v, vs, rfl, g1, g2⟩ := isIm_ok h1 ha
    obtain rfl := args_nil g2
    exact check_ret false i (by omega) (by omega) (by omega) w [v] g1
  · cases h
end Go.Proofs.YtimgongaenpgkaaDoor
