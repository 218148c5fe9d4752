/- Contracts of package word (layer 1), one for each function. -/
import Derived.Test.YtgcglmnbkilfhaaGreatDoorRows
import Derived.Test.YtgcglmnbkilfhaaGreatDoorPlain01
import Derived.Test.YtgcglmnbkilfhaaGreatDoorKit01
namespace Go.Proofs.YtgcglmnbkilfhaaGreatDoor
open Go.RowKit

theorem isWidth_yes (n l : Int) (w : World) (h1 : 1 ≤ n) (h2 : n ≤ l) :
    Calls Tryz.prog 82 #[.int .i64 n, .int .i64 l] w fun e w' => e = .returned (.bool true) ∧ w = w' := by
  go_enter Tryz.func82, Tryz.ntmps82
  go_wp2
  go_ret
  exact ⟨rfl, rfl⟩
theorem isWidth_no (n l : Int) (w : World) (h : n < 1 ∨ l < n) :
    Calls Tryz.prog 82 #[.int .i64 n, .int .i64 l] w fun e w' => e = .returned (.bool false) ∧ w = w' := by
  rcases h with h | h
  · go_enter Tryz.func82, Tryz.ntmps82
    go_wp2
    go_ret
    exact ⟨rfl, rfl⟩
  · have hd : decide (n ≤ l) = false := by simpa using h
    by_cases h1 : 1 ≤ n
    all_goals
      go_enter Tryz.func82, Tryz.ntmps82
      go_wp2
      go_ret
      exact ⟨rfl, rfl⟩
theorem fits_no (x n : Int) (w : World) (h : n < 1 ∨ 64 < n) :
    Calls Tryz.prog 64 #[.int .i64 x, .int .i64 n] w fun e w' => e = .returned (.bool false) ∧ w = w' := by
  go_enter Tryz.func64, Tryz.ntmps64
  go_wp2_with (go_at_call 82; refine (isWidth_no _ _ _ h).mono ?_; rintro e w' ⟨rfl, rfl⟩)
  go_ret
  exact ⟨rfl, rfl⟩
theorem fits_at (x : Int) (n : Nat) (w : World) (h1 : 1 ≤ n) (h2 : n ≤ 64) :
    Calls Tryz.prog 64 #[.int .i64 x, .int .i64 n] w fun e w' => e = .returned (.bool (fitsB x n)) ∧ w = w' := by
  go_enter Tryz.func64, Tryz.ntmps64
  go_wp2_with (go_at_call 82; refine (isWidth_yes _ _ _ (by omega) (by omega)).mono ?_; rintro e w' ⟨rfl, rfl⟩)
  all_goals
    go_ret
    exact ⟨by simp [fitsB, *], rfl⟩
end Go.Proofs.YtgcglmnbkilfhaaGreatDoor
