/- Contracts of package word (layer 1), one for each function. -/
import Derived.Test.YtpmjfpdogbcigaaDoorRows
import Derived.Test.YtpmjfpdogbcigaaDoorPlain01
import Derived.Test.YtpmjfpdogbcigaaDoorKit01
namespace Go.Proofs.YtpmjfpdogbcigaaDoor
open Go.RowKit

theorem isWidth_yes (n l : Int) (w : World) (h1 : 1 ≤ n) (h2 : n ≤ l) :
    Calls Tryd.prog 42 #[.int .i64 n, .int .i64 l] w fun e w' => e = .returned (.bool true) ∧ w = w' := by
  go_enter Tryd.func42, Tryd.ntmps42
  go_wp2
  go_ret
  exact ⟨rfl, rfl⟩
theorem isWidth_no (n l : Int) (w : World) (h : n < 1 ∨ l < n) :
    Calls Tryd.prog 42 #[.int .i64 n, .int .i64 l] w fun e w' => e = .returned (.bool false) ∧ w = w' := by
  rcases h with h | h
  · go_enter Tryd.func42, Tryd.ntmps42
    go_wp2
    go_ret
    exact ⟨rfl, rfl⟩
  · have hd : decide (n ≤ l) = false := by simpa using h
    by_cases h1 : 1 ≤ n
    all_goals
      go_enter Tryd.func42, Tryd.ntmps42
      go_wp2
      go_ret
      exact ⟨rfl, rfl⟩
theorem sign_no (x n : Int) (w : World) (h : n < 1 ∨ 32 < n) :
    Calls Tryd.prog 43 #[.int .u32 x, .int .i64 n] w fun e w' => e = .returned (.tuple #[.int .i64 0, .int .i64 2]) ∧ w = w' := by
  go_enter Tryd.func43, Tryd.ntmps43
  go_wp2_with (go_at_call 42; refine (isWidth_no _ _ _ h).mono ?_; rintro e w' ⟨rfl, rfl⟩)
  go_ret2
  exact ⟨rfl, rfl⟩
theorem sign_yes (x n : Nat) (w : World) (h1 : 1 ≤ n) (h2 : n ≤ 32) :
    Calls Tryd.prog 43 #[.int .u32 x, .int .i64 n] w fun e w' => e = .returned (.tuple #[.int .i64 (signN x n), .int .i64 0]) ∧ w = w' := by
  go_enter Tryd.func43, Tryd.ntmps43
  go_wp2_with (go_at_call 42; refine (isWidth_yes _ _ _ (by omega) (by omega)).mono ?_; rintro e w' ⟨rfl, rfl⟩)
  go_ret2
  exact ⟨by rw [sign_eq x n h1 h2]; rfl, rfl⟩
theorem fits_no (x n : Int) (w : World) (h : n < 1 ∨ 64 < n) :
    Calls Tryd.prog 23 #[.int .i64 x, .int .i64 n] w fun e w' => e = .returned (.bool false) ∧ w = w' := by
  go_enter Tryd.func23, Tryd.ntmps23
  go_wp2_with (go_at_call 42; refine (isWidth_no _ _ _ h).mono ?_; rintro e w' ⟨rfl, rfl⟩)
  go_ret
  exact ⟨rfl, rfl⟩
theorem fits_at (x : Int) (n : Nat) (w : World) (h1 : 1 ≤ n) (h2 : n ≤ 64) :
    Calls Tryd.prog 23 #[.int .i64 x, .int .i64 n] w fun e w' => e = .returned (.bool (fitsB x n)) ∧ w = w' := by
  go_enter Tryd.func23, Tryd.ntmps23
  go_wp2_with (go_at_call 42; refine (isWidth_yes _ _ _ (by omega) (by omega)).mono ?_; rintro e w' ⟨rfl, rfl⟩)
  all_goals
    go_ret
    exact ⟨by simp [fitsB, *], rfl⟩
end Go.Proofs.YtpmjfpdogbcigaaDoor
