/- Contracts of package word (layer 1), one for each function. -/
import Derived.Test.YtgchiidaikponaaDoorRows
import Derived.Test.YtgchiidaikponaaDoorPlain01
import Derived.Test.YtgchiidaikponaaDoorKit01
namespace Go.Proofs.YtgchiidaikponaaDoor
open Go.RowKit

theorem isWidth_yes (n l : Int) (w : World) (h1 : 1 ≤ n) (h2 : n ≤ l) :
    Calls Tryd.prog 42 #[.int .i64 n, .int .i64 l] w fun e w' => e = .returned (.bool true) ∧ w = w' := by
  go_enter Tryd.func42, Tryd.ntmps42
  go_wp2
  go_ret
  exact ⟨rfl, rfl⟩
theorem isWidth_no (n l : Int) (w : World) (h : n < 1 ∨ l < n) :
    Calls Tryd.prog 42 #[.int .i64 n, .int .i64 l] w fun e w' => e = .returned (.bool false) ∧ w = w' := by
  rcases h with h | h
  · go_enter Tryd.func42, Tryd.ntmps42
    go_wp2
    go_ret
    exact ⟨rfl, rfl⟩
  · have hd : decide (n ≤ l) = false := by simpa using h
    by_cases h1 : 1 ≤ n
    all_goals
      go_enter Tryd.func42, Tryd.ntmps42
      go_wp2
      go_ret
      exact ⟨rfl, rfl⟩
theorem fits_no (x n : Int) (w : World) (h : n < 1 ∨ 64 < n) :
    Calls Tryd.prog 39 #[.int .i64 x, .int .i64 n] w fun e w' => e = .returned (.bool false) ∧ w = w' := by
  go_enter Tryd.func39, Tryd.ntmps39
  go_wp2_with (go_at_call 42; refine (isWidth_no _ _ _ h).mono ?_; rintro e w' ⟨rfl, rfl⟩)
  go_ret
  exact ⟨rfl, rfl⟩
theorem fits_at (x : Int) (n : Nat) (w : World) (h1 : 1 ≤ n) (h2 : n ≤ 64) :
    Calls Tryd.prog 39 #[.int .i64 x, .int .i64 n] w fun e w' => e = .returned (.bool (fitsB x n)) ∧ w = w' := by
  go_enter Tryd.func39, Tryd.ntmps39
  go_wp2_with (go_at_call 42; refine (isWidth_yes _ _ _ (by omega) (by omega)).mono ?_; rintro e w' ⟨rfl, rfl⟩)
  all_goals
    go_ret
    exact ⟨by simp [fitsB, *], rfl⟩
end Go.Proofs.YtgchiidaikponaaDoor
