/- Contracts of package isa (layer 3), by the evaluator. -/
import Derived.Test.YtckgpcpcjhomiaaRows
import Derived.Test.YtckgpcpcjhomiaaPlain03
import Derived.Test.YtckgpcpcjhomiaaSimV
import Derived.Test.YtckgpcpcjhomiaaWord
import Derived.KernelRfl
namespace Go.Proofs.Ytckgpcpcjhomiaa
open Go.RowKit Sim
set_option linter.unusedVariables false
set_option linter.unusedSimpArgs false

abbrev Gl := Nat → Option (List Value)
/-- Marks: all open. -/
def O1 : List (List Bool) := [[true]]
def O2 : List (List Bool) := [[true], [true]]
def O3 : List (List Bool) := [[true], [true], [true]]
def OIn : List (List Bool) := [[true, true, true, true, true, true, true]]
theorem btw_eq (v l m : Int) : btwB v l m = (decide (l ≤ v) && decide (v ≤ m)) := by unfold btwB; simp
theorem isBetween_ret {gl : Gl} (v l m : Int) (w : World) (hG : GlobOk gl w) : Ret Try.prog 41 #[.int .i64 v, .int .i64 l, .int .i64 m] (.bool (btwB v l m)) w := by
  have hc : TabOk Try.prog gl noT := .none _ _
  cases h0 : (decide (l ≤ v))
  case true => exact (ret hc (fuel := 1000) O3 [true] (v := .bool (decide (v ≤ m))) [(decide (l ≤ v), true)] (by kernel_rfl) (by simp [h0]) w hG).of_eq (by simp [btw_eq, h0])
  case false => exact (ret hc (fuel := 1000) O3 [false] (v := .bool false) [(decide (l ≤ v), false)] (by kernel_rfl) (by simp [h0]) w hG).of_eq (by simp [btw_eq, h0])
def tBetween : Tab := row 41 decIII fun x => .bool (btwB x.1 x.2.1 x.2.2)
theorem tBetween_ok {gl : Gl} : TabOk Try.prog gl tBetween := tabIII fun x y z w hG => isBetween_ret x y z w hG
theorem exists_ret {gl : Gl} (op : Int) (w : World) (hG : GlobOk gl w) : Ret Try.prog 35 #[.int .i64 op] (.bool (okB op)) w :=
  (ret tBetween_ok (fuel := 1000) O1 [] (v := .bool (btwB op 1 87)) [] (by kernel_rfl) (fun _ h => by cases h) w hG).of_eq rfl
def tExists : Tab := row 35 decI fun x => .bool (okB x)
theorem tExists_ok {gl : Gl} : TabOk Try.prog gl tExists := tabI fun x w hG => exists_ret x w hG
theorem isEven_ret {gl : Gl} (v : Int) (w : World) (hG : GlobOk gl w) : Ret Try.prog 50 #[.int .i64 v] (.bool (evenB v)) w :=
  ret (TabOk.none _ _) (fuel := 1000) O1 [] (v := .bool (evenB v)) [] (by kernel_rfl) (fun _ h => by cases h) w hG
def tEven : Tab := row 50 decI fun x => .bool (evenB x)
theorem tEven_ok {gl : Gl} : TabOk Try.prog gl tEven := tabI fun x w hG => isEven_ret x w hG
theorem fits_ret {gl : Gl} (v n : Int) (w : World) (hG : GlobOk gl w) : Ret Try.prog 49 #[.int .i64 v, .int .i64 n] (.bool (fitZ v n)) w := by
  unfold fitZ
  by_cases h : 1 ≤ n ∧ n ≤ 64
  · rw [if_pos h]
    obtain ⟨m, rfl⟩ : ∃ m : Nat, n = m := ⟨n.toNat, by omega⟩
    exact Ret.of_same (fits_at v m w (by omega) (by omega))
  · rw [if_neg h]
    exact Ret.of_same (fits_no v n w (by omega))
def tFits : Tab := row 49 decII fun x => .bool (fitZ x.1 x.2)
theorem tFits_ok {gl : Gl} : TabOk Try.prog gl tFits := tabII fun x y w hG => fits_ret x y w hG
theorem classify_in {gl : Gl} : (List.range 88).all (runs { P := Try.prog, glob := gl, call := noT } 1000 48 (fun n => [.int .i64 n]) fun n => .agg #[.int .i64 (formZ n), .bool (readZ n), .bool (writeZ n)]) = true := by kernel_rfl
def classL : List Int := [1, 2, 3, 11, 12, 13, 14, 15, 16, 17, 4, 22, 23, 24, 25, 26, 27, 31, 5, 6, 7, 8, 9, 10, 18, 19, 20, 21, 28, 29, 30, 32, 33, 34, 35, 36, 37, 38, 39, 40, 41, 42, 43, 44, 45, 46, 47, 48, 49, 50, 51, 52, 53, 54, 55, 56, 57, 58, 59, 60, 61, 62, 63, 64, 65, 66, 77, 68, 69, 70, 71, 72, 73, 74, 75, 76, 79, 80, 81, 82, 83, 84, 85, 86, 87, 67, 78]
theorem class_rng : ∀ k ∈ classL, 1 ≤ k ∧ k ≤ 87 := by decide +kernel
theorem classify_ret {gl : Gl} (op : Int) (w : World) (hG : GlobOk gl w) : Ret Try.prog 48 #[.int .i64 op] (.agg #[.int .i64 (formZ op), .bool (readZ op), .bool (writeZ op)]) w := by
  rcases op_cases op with ⟨n, h1, h2, rfl⟩ | h
  · exact runs_ret (TabOk.none _ _) classify_in n h2 w hG
  · refine (ret (TabOk.none _ _) (fuel := 1000) O1 (List.replicate 87 false) (v := .agg #[.int .i64 (-1), .bool false, .bool false]) (classL.reverse.map fun k => (op == k, false)) (by kernel_rfl) (fun p hp => ?_) w hG).of_eq (by rw [formZ_out h, readZ_out h, writeZ_out h])
    obtain ⟨k, hk, rfl⟩ := List.mem_map.mp hp
    have := class_rng k (List.mem_reverse.mp hk)
    simp; omega
def tClass : Tab := row 48 decI fun x => .agg #[.int .i64 (formZ x), .bool (readZ x), .bool (writeZ x)]
theorem tClass_ok {gl : Gl} : TabOk Try.prog gl tClass := tabI fun x w hG => classify_ret x w hG
theorem form_ret {gl : Gl} (op : Int) (w : World) (hG : GlobOk gl w) : Ret Try.prog 36 #[.int .i64 op] (.int .i64 (formZ op)) w :=
  ret tClass_ok (fuel := 1000) O1 [] (v := .int .i64 (formZ op)) [] (by kernel_rfl) (fun _ h => by cases h) w hG
def tForm : Tab := row 36 decI fun x => .int .i64 (formZ x)
theorem tForm_ok {gl : Gl} : TabOk Try.prog gl tForm := tabI fun x w hG => form_ret x w hG
theorem wide_ret {gl : Gl} (op : Int) (w : World) (hG : GlobOk gl w) : Ret Try.prog 28 #[.int .i64 op] (.bool (wideB op)) w := by
  cases h0 : (op == 14)
  case true => exact (ret tBetween_ok (fuel := 1000) O1 [true] (v := .bool true) [(op == 14, true)] (by kernel_rfl) (by simp [h0]) w hG).of_eq (by simp [wideB, h0])
  case false =>
    cases h1 : (op == 21)
    case true => exact (ret tBetween_ok (fuel := 1000) O1 [false, true] (v := .bool true) [(op == 21, true), (op == 14, false)] (by kernel_rfl) (by simp [h0, h1]) w hG).of_eq (by simp [wideB, h0, h1])
    case false => exact (ret tBetween_ok (fuel := 1000) O1 [false, false] (v := .bool (btwB op 77 87)) [(op == 21, false), (op == 14, false)] (by kernel_rfl) (by simp [h0, h1]) w hG).of_eq (by simp [wideB, h0, h1])
def tWide : Tab := row 28 decI fun x => .bool (wideB x)
theorem tWide_ok {gl : Gl} : TabOk Try.prog gl tWide := tabI fun x w hG => wide_ret x w hG
theorem branch_ret {gl : Gl} (op : Int) (w : World) (hG : GlobOk gl w) : Ret Try.prog 40 #[.int .i64 op] (.bool (formZ op == 4)) w :=
  ret tForm_ok (fuel := 1000) O1 [] (v := .bool (formZ op == 4)) [] (by kernel_rfl) (fun _ h => by cases h) w hG
def tBranch : Tab := row 40 decI fun x => .bool (formZ x == 4)
theorem tBranch_ok {gl : Gl} : TabOk Try.prog gl tBranch := tabI fun x w hG => branch_ret x w hG
theorem used_in {gl : Gl} : (List.range 12).all (runs { P := Try.prog, glob := gl, call := noT } 1000 37 (fun n => [.int .i64 n]) fun n => .agg #[.bool (rdF n), .bool (aF n), .bool (bF n), .bool (oF n)]) = true := by kernel_rfl
theorem used_ret {gl : Gl} (k : Int) (w : World) (hG : GlobOk gl w) : Ret Try.prog 37 #[.int .i64 k] (.agg #[.bool (rdF k), .bool (aF k), .bool (bF k), .bool (oF k)]) w := by
  by_cases h : 0 ≤ k ∧ k < 12
  · obtain ⟨n, rfl⟩ : ∃ n : Nat, k = n := ⟨k.toNat, by omega⟩
    exact runs_ret (TabOk.none _ _) used_in n (by omega) w hG
  · have e : rdF k = false ∧ aF k = false ∧ bF k = false ∧ oF k = false := ⟨atZ_out _ _ _ (by simp; omega), atZ_out _ _ _ (by simp; omega), atZ_out _ _ _ (by simp; omega), atZ_out _ _ _ (by simp; omega)⟩
    refine (ret (TabOk.none _ _) (fuel := 1000) O1 (List.replicate 10 false) (v := .agg #[.bool false, .bool false, .bool false, .bool false]) (([11, 10, 3, 7, 8, 1, 2, 6, 4, 5] : List Int).reverse.map fun j => (k == j, false)) (by kernel_rfl) (fun p hp => ?_) w hG).of_eq (by rw [e.1, e.2.1, e.2.2.1, e.2.2.2])
    obtain ⟨j, hj, rfl⟩ := List.mem_map.mp hp
    have : 0 ≤ j ∧ j < 12 := (show ∀ j ∈ ([11, 10, 3, 7, 8, 1, 2, 6, 4, 5] : List Int).reverse, 0 ≤ j ∧ j < 12 by decide) j hj
    simp; omega
def tUsed : Tab := row 37 decI fun k => .agg #[.bool (rdF k), .bool (aF k), .bool (bF k), .bool (oF k)]
theorem tUsed_ok {gl : Gl} : TabOk Try.prog gl tUsed := tabI fun x w hG => used_ret x w hG
theorem mayRegister_ret {gl : Gl} (r : Int) (u : Bool) (w : World) (hG : GlobOk gl w) : Ret Try.prog 38 #[.int .i64 r, .bool u] (.bool (regB r u)) w := by
  cases h0 : (!u)
  case true => exact (ret tBetween_ok (fuel := 1000) O2 [true] (v := .bool (r == 0)) [(!u, true)] (by kernel_rfl) (by simpa using h0) w hG).of_eq (by simp at h0; simp [regB, h0]; rfl)
  case false => exact (ret tBetween_ok (fuel := 1000) O2 [false] (v := .bool (btwB r 0 31)) [(!u, false)] (by kernel_rfl) (by simpa using h0) w hG).of_eq (by simp at h0; simp [regB, h0, btwB])
def tReg : Tab := row 38 decIB fun x => .bool (regB x.1 x.2)
theorem tReg_ok {gl : Gl} : TabOk Try.prog gl tReg := tabIB fun x y w hG => mayRegister_ret x y w hG
theorem mayImm_ret {gl : Gl} (v k : Int) (w : World) (hG : GlobOk gl w) : Ret Try.prog 39 #[.int .i64 v, .int .i64 k] (.bool (immB v k)) w := by
  have hc : TabOk Try.prog gl (orT tFits <| orT tEven tBetween) := tFits_ok.or (tEven_ok.or tBetween_ok)
  --was 20 "hc (fuel := 1000)" "O2" "immB" fun (v k : Int) (p : List Bool) => simCall (E_gen (fun _ => none) <| orT tFits <| orT tEven tBetween) 1000 O2 p 39 [.int .i64 v, .int .i64 k]
  cases h0 : (k == 1)
  case true =>
    exact (ret hc (fuel := 1000) O2 [true] (v := .bool (fitZ v 20)) [(k == 1, true)] (by kernel_rfl) (by simp [h0]) w hG).of_eq (by simp [immB, h0])
  case false =>
    cases h1 : (k == 2)
    case true =>
      cases h2 : (evenB v)
      case true =>
        exact (ret hc (fuel := 1000) O2 [false, true, true] (v := .bool (fitZ v 21)) [(evenB v, true), (k == 2, true), (k == 1, false)] (by kernel_rfl) (by simp [h0, h1, h2]) w hG).of_eq (by simp [immB, h0, h1, h2])
      case false =>
        exact (ret hc (fuel := 1000) O2 [false, true, false] (v := .bool (false)) [(evenB v, false), (k == 2, true), (k == 1, false)] (by kernel_rfl) (by simp [h0, h1, h2]) w hG).of_eq (by simp [immB, h0, h1, h2])
    case false =>
      cases h2 : (k == 4)
      case true =>
        cases h3 : (evenB v)
        case true =>
          exact (ret hc (fuel := 1000) O2 [false, false, true, true] (v := .bool (fitZ v 13)) [(evenB v, true), (k == 4, true), (k == 2, false), (k == 1, false)] (by kernel_rfl) (by simp [h0, h1, h2, h3]) w hG).of_eq (by simp [immB, h0, h1, h2, h3])
        case false =>
          exact (ret hc (fuel := 1000) O2 [false, false, true, false] (v := .bool (false)) [(evenB v, false), (k == 4, true), (k == 2, false), (k == 1, false)] (by kernel_rfl) (by simp [h0, h1, h2, h3]) w hG).of_eq (by simp [immB, h0, h1, h2, h3])
      case false =>
        cases h3 : (k == 3)
        case true =>
          exact (ret hc (fuel := 1000) O2 [false, false, false, true] (v := .bool (fitZ v 12)) [(k == 3, true), (k == 4, false), (k == 2, false), (k == 1, false)] (by kernel_rfl) (by simp [h0, h1, h2, h3]) w hG).of_eq (by simp [immB, h0, h1, h2, h3])
        case false =>
          cases h4 : (k == 5)
          case true =>
            exact (ret hc (fuel := 1000) O2 [false, false, false, false, true] (v := .bool (fitZ v 12)) [(k == 5, true), (k == 3, false), (k == 4, false), (k == 2, false), (k == 1, false)] (by kernel_rfl) (by simp [h0, h1, h2, h3, h4]) w hG).of_eq (by simp [immB, h0, h1, h2, h3, h4])
          case false =>
            cases h5 : (k == 7)
            case true =>
              exact (ret hc (fuel := 1000) O2 [false, false, false, false, false, true] (v := .bool (btwB v 0 63)) [(k == 7, true), (k == 5, false), (k == 3, false), (k == 4, false), (k == 2, false), (k == 1, false)] (by kernel_rfl) (by simp [h0, h1, h2, h3, h4, h5]) w hG).of_eq (by simp [immB, h0, h1, h2, h3, h4, h5])
            case false =>
              cases h6 : (k == 8)
              case true =>
                exact (ret hc (fuel := 1000) O2 [false, false, false, false, false, false, true] (v := .bool (btwB v 0 31)) [(k == 8, true), (k == 7, false), (k == 5, false), (k == 3, false), (k == 4, false), (k == 2, false), (k == 1, false)] (by kernel_rfl) (by simp [h0, h1, h2, h3, h4, h5, h6]) w hG).of_eq (by simp [immB, h0, h1, h2, h3, h4, h5, h6])
              case false =>
                cases h7 : (k == 9)
                case true =>
                  exact (ret hc (fuel := 1000) O2 [false, false, false, false, false, false, false, true] (v := .bool (btwB v 0 255)) [(k == 9, true), (k == 8, false), (k == 7, false), (k == 5, false), (k == 3, false), (k == 4, false), (k == 2, false), (k == 1, false)] (by kernel_rfl) (by simp [h0, h1, h2, h3, h4, h5, h6, h7]) w hG).of_eq (by simp [immB, h0, h1, h2, h3, h4, h5, h6, h7])
                case false =>
                  exact (ret hc (fuel := 1000) O2 [false, false, false, false, false, false, false, false] (v := .bool (v == 0)) [(k == 9, false), (k == 8, false), (k == 7, false), (k == 5, false), (k == 3, false), (k == 4, false), (k == 2, false), (k == 1, false)] (by kernel_rfl) (by simp [h0, h1, h2, h3, h4, h5, h6, h7]) w hG).of_eq (by simp [immB, h0, h1, h2, h3, h4, h5, h6, h7])
def tImm : Tab := row 39 decII fun x => .bool (immB x.1 x.2)
theorem tImm_ok {gl : Gl} : TabOk Try.prog gl tImm := tabII fun x y w hG => mayImm_ret x y w hG
def tMayC : Tab := orT tExists <| orT tForm <| orT tUsed <| orT tReg tImm
theorem tMayC_ok {gl : Gl} : TabOk Try.prog gl tMayC := tExists_ok.or (tForm_ok.or (tUsed_ok.or (tReg_ok.or tImm_ok)))
theorem may_ret {gl : Gl} (i : In) (w : World) (hG : GlobOk gl w) : Ret Try.prog 23 #[inV i] (.bool (mayB i)) w := by
  --was 20 "tMayC_ok (fuel := 1000)" "OIn" "mayB" fun (i : In) (p : List Bool) => simCall (E_gen (fun _ => none) tMayC) 1000 OIn p 23 [inV i]
  cases h0 : (okB i.op)
  case true =>
    cases h1 : (regB i.rd (rdF (formZ i.op)))
    case true =>
      cases h2 : (regB i.a (aF (formZ i.op)))
      case true =>
        cases h3 : (regB i.b (bF (formZ i.op)))
        case true =>
          cases h4 : (immB i.imm (formZ i.op))
          case true =>
            cases h5 : (oF (formZ i.op))
            case true =>
              exact (ret tMayC_ok (fuel := 1000) OIn [false, true, true, true, true, true] (v := .bool (true)) [(oF (formZ i.op), true), (immB i.imm (formZ i.op), true), (regB i.b (bF (formZ i.op)), true), (regB i.a (aF (formZ i.op)), true), (regB i.rd (rdF (formZ i.op)), true), (!okB i.op, false)] (by kernel_rfl) (by simp [h0, h1, h2, h3, h4, h5]) w hG).of_eq (by simp [mayB, h0, h1, h2, h3, h4, h5])
            case false =>
              cases h6 : (i.aq)
              case true =>
                exact (ret tMayC_ok (fuel := 1000) OIn [false, true, true, true, true, false, false] (v := .bool (false)) [(!i.aq, false), (oF (formZ i.op), false), (immB i.imm (formZ i.op), true), (regB i.b (bF (formZ i.op)), true), (regB i.a (aF (formZ i.op)), true), (regB i.rd (rdF (formZ i.op)), true), (!okB i.op, false)] (by kernel_rfl) (by simp [h0, h1, h2, h3, h4, h5, h6]) w hG).of_eq (by simp [mayB, h0, h1, h2, h3, h4, h5, h6])
              case false =>
                exact (ret tMayC_ok (fuel := 1000) OIn [false, true, true, true, true, false, true] (v := .bool (!i.rl)) [(!i.aq, true), (oF (formZ i.op), false), (immB i.imm (formZ i.op), true), (regB i.b (bF (formZ i.op)), true), (regB i.a (aF (formZ i.op)), true), (regB i.rd (rdF (formZ i.op)), true), (!okB i.op, false)] (by kernel_rfl) (by simp [h0, h1, h2, h3, h4, h5, h6]) w hG).of_eq (by simp [mayB, h0, h1, h2, h3, h4, h5, h6])
          case false =>
            exact (ret tMayC_ok (fuel := 1000) OIn [false, true, true, true, false] (v := .bool (false)) [(immB i.imm (formZ i.op), false), (regB i.b (bF (formZ i.op)), true), (regB i.a (aF (formZ i.op)), true), (regB i.rd (rdF (formZ i.op)), true), (!okB i.op, false)] (by kernel_rfl) (by simp [h0, h1, h2, h3, h4]) w hG).of_eq (by simp [mayB, h0, h1, h2, h3, h4])
        case false =>
          exact (ret tMayC_ok (fuel := 1000) OIn [false, true, true, false] (v := .bool (false)) [(regB i.b (bF (formZ i.op)), false), (regB i.a (aF (formZ i.op)), true), (regB i.rd (rdF (formZ i.op)), true), (!okB i.op, false)] (by kernel_rfl) (by simp [h0, h1, h2, h3]) w hG).of_eq (by simp [mayB, h0, h1, h2, h3])
      case false =>
        exact (ret tMayC_ok (fuel := 1000) OIn [false, true, false] (v := .bool (false)) [(regB i.a (aF (formZ i.op)), false), (regB i.rd (rdF (formZ i.op)), true), (!okB i.op, false)] (by kernel_rfl) (by simp [h0, h1, h2]) w hG).of_eq (by simp [mayB, h0, h1, h2])
    case false =>
      exact (ret tMayC_ok (fuel := 1000) OIn [false, false] (v := .bool (false)) [(regB i.rd (rdF (formZ i.op)), false), (!okB i.op, false)] (by kernel_rfl) (by simp [h0, h1]) w hG).of_eq (by simp [mayB, h0, h1])
  case false =>
    exact (ret tMayC_ok (fuel := 1000) OIn [true] (v := .bool (false)) [(!okB i.op, true)] (by kernel_rfl) (by simp [h0]) w hG).of_eq (by simp [mayB, h0])
def tMay : Tab := row 23 decIn fun i => .bool (mayB i)
theorem tMay_ok {gl : Gl} : TabOk Try.prog gl tMay := tabV decIn_eq fun x w hG => may_ret x w hG
theorem writes_ret {gl : Gl} (i : In) (w : World) (hG : GlobOk gl w) : Ret Try.prog 22 #[inV i] (.tuple #[.int .i64 (bif mayB i && i.rd != 0 then i.rd else 0), .bool (mayB i && i.rd != 0)]) w := by
  --was 20 "tMay_ok (fuel := 1000)" "OIn" "bne, inV" fun (i : In) (p : List Bool) => simCall (E_gen (fun _ => none) tMay) 1000 OIn p 22 [inV i]
  cases h0 : (mayB i)
  case true =>
    cases h1 : (i.rd == 0)
    case true =>
      exact (ret tMay_ok (fuel := 1000) OIn [false, true] (v := .tuple #[.int .i64 (0), .bool (false)]) [(i.rd == 0, true), (!mayB i, false)] (by kernel_rfl) (by simp [h0, h1]) w hG).of_eq (by simp [bne, inV, h0, h1])
    case false =>
      exact (ret tMay_ok (fuel := 1000) OIn [false, false] (v := .tuple #[.int .i64 (i.rd), .bool (true)]) [(i.rd == 0, false), (!mayB i, false)] (by kernel_rfl) (by simp [h0, h1]) w hG).of_eq (by simp [bne, inV, h0, h1])
  case false =>
    exact (ret tMay_ok (fuel := 1000) OIn [true] (v := .tuple #[.int .i64 (0), .bool (false)]) [(!mayB i, true)] (by kernel_rfl) (by simp [h0]) w hG).of_eq (by simp [bne, inV, h0])
def tWrites : Tab := row 22 decIn fun i => .tuple #[.int .i64 (bif mayB i && i.rd != 0 then i.rd else 0), .bool (mayB i && i.rd != 0)]
theorem tWrites_ok {gl : Gl} : TabOk Try.prog gl tWrites := tabV decIn_eq fun x w hG => writes_ret x w hG
end Go.Proofs.Ytckgpcpcjhomiaa
