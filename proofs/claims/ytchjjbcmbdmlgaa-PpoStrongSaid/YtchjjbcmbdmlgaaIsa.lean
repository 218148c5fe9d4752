/- Contracts of package isa (layer 3), by the evaluator. -/
import Derived.Test.YtchjjbcmbdmlgaaK01
import Derived.Test.YtchjjbcmbdmlgaaK05
import Derived.Test.YtchjjbcmbdmlgaaRows
import Derived.KernelRfl
set_option linter.unusedVariables false
set_option linter.unusedSimpArgs false
namespace Go.Proofs.Ytchjjbcmbdmlgaa
open Go.RowKit Sim
def O1 : List (List Bool) := [[true]]
def O2 : List (List Bool) := [[true], [true]]
def O3 : List (List Bool) := [[true], [true], [true]]
def OIn : List (List Bool) := [[true, true, true, true, true, true, true]]
theorem btw_eq (v l m : Int) : btwB v l m = (decide (l ≤ v) && decide (v ≤ m)) := by unfold btwB; simp
theorem isBetween_ret {gl : Gl} (v l m : Int) (w : World) (hG : GlobOk gl w) : Ret Try.prog 72 #[.int .i64 v, .int .i64 l, .int .i64 m] (.bool (btwB v l m)) w := by
  have hc : TabOk Try.prog gl noT := .none _ _
  cases h0 : (decide (l ≤ v))
  case true => exact (ret hc (fuel := 1000) O3 [true] (v := .bool (decide (v ≤ m))) [(decide (l ≤ v), true)] (by kernel_rfl) (by simp [h0]) w hG).of_eq (by simp [btw_eq, h0])
  case false => exact (ret hc (fuel := 1000) O3 [false] (v := .bool false) [(decide (l ≤ v), false)] (by kernel_rfl) (by simp [h0]) w hG).of_eq (by simp [btw_eq, h0])
def tBetween : Tab := row 72 decIII fun x => .bool (btwB x.1 x.2.1 x.2.2)
theorem tBetween_ok {gl : Gl} : TabOk Try.prog gl tBetween := tabIII fun x y z w hG => isBetween_ret x y z w hG
theorem classify_in {gl : Gl} : (List.range 88).all (runs { P := Try.prog, glob := gl, call := noT } 1000 73 (fun n => [.int .i64 n]) fun n => .agg #[.int .i64 (formZ n), .bool (readZ n), .bool (writeZ n)]) = true := by kernel_rfl
def classL : List Int := [1, 2, 3, 11, 12, 13, 14, 15, 16, 17, 4, 22, 23, 24, 25, 26, 27, 31, 5, 6, 7, 8, 9, 10, 18, 19, 20, 21, 28, 29, 30, 32, 33, 34, 35, 36, 37, 38, 39, 40, 41, 42, 43, 44, 45, 46, 47, 48, 49, 50, 51, 52, 53, 54, 55, 56, 57, 58, 59, 60, 61, 62, 63, 64, 65, 66, 77, 68, 69, 70, 71, 72, 73, 74, 75, 76, 79, 80, 81, 82, 83, 84, 85, 86, 87, 67, 78]
theorem class_rng : ∀ k ∈ classL, 1 ≤ k ∧ k ≤ 87 := by decide +kernel
theorem classify_ret {gl : Gl} (op : Int) (w : World) (hG : GlobOk gl w) : Ret Try.prog 73 #[.int .i64 op] (.agg #[.int .i64 (formZ op), .bool (readZ op), .bool (writeZ op)]) w := by
  rcases op_cases op with ⟨n, h1, h2, rfl⟩ | h
  · exact runs_ret (TabOk.none _ _) classify_in n h2 w hG
  · refine (ret (TabOk.none _ _) (fuel := 1000) O1 (List.replicate 87 false) (v := .agg #[.int .i64 (-1), .bool false, .bool false]) (classL.reverse.map fun k => (op == k, false)) (by kernel_rfl) (fun p hp => ?_) w hG).of_eq (by rw [formZ_out h, readZ_out h, writeZ_out h])
    obtain ⟨k, hk, rfl⟩ := List.mem_map.mp hp
    have := class_rng k (List.mem_reverse.mp hk)
    simp; omega
def tClass : Tab := row 73 decI fun x => .agg #[.int .i64 (formZ x), .bool (readZ x), .bool (writeZ x)]
theorem tClass_ok {gl : Gl} : TabOk Try.prog gl tClass := tabI fun x w hG => classify_ret x w hG
theorem form_ret {gl : Gl} (op : Int) (w : World) (hG : GlobOk gl w) : Ret Try.prog 58 #[.int .i64 op] (.int .i64 (formZ op)) w :=
  ret tClass_ok (fuel := 1000) O1 [] (v := .int .i64 (formZ op)) [] (by kernel_rfl) (fun _ h => by cases h) w hG
theorem wide_ret {gl : Gl} (op : Int) (w : World) (hG : GlobOk gl w) : Ret Try.prog 57 #[.int .i64 op] (.bool (wideB op)) w := by
  cases h0 : (op == 14)
  case true => exact (ret tBetween_ok (fuel := 1000) O1 [true] (v := .bool true) [(op == 14, true)] (by kernel_rfl) (by simp [h0]) w hG).of_eq (by simp [wideB, h0])
  case false =>
    cases h1 : (op == 21)
    case true => exact (ret tBetween_ok (fuel := 1000) O1 [false, true] (v := .bool true) [(op == 21, true), (op == 14, false)] (by kernel_rfl) (by simp [h0, h1]) w hG).of_eq (by simp [wideB, h0, h1])
    case false => exact (ret tBetween_ok (fuel := 1000) O1 [false, false] (v := .bool (btwB op 77 87)) [(op == 21, false), (op == 14, false)] (by kernel_rfl) (by simp [h0, h1]) w hG).of_eq (by simp [wideB, h0, h1])
end Go.Proofs.Ytchjjbcmbdmlgaa
