/- Contracts of package word (layer 1), one for each function. -/
import Derived.Test.YtimgongaenpgkaaDoorRows
import Derived.Test.YtimgongaenpgkaaDoorPlain01
import Derived.Test.YtimgongaenpgkaaDoorKit01
namespace Go.Proofs.YtimgongaenpgkaaDoor
open Go.RowKit

theorem isWidth_yes (n l : Int) (w : World) (h1 : 1 ≤ n) (h2 : n ≤ l) :
    Calls Tryd.prog 75 #[.int .i64 n, .int .i64 l] w fun e w' => e = .returned (.bool true) ∧ w = w' := by
  go_enter Tryd.func75, Tryd.ntmps75
  go_wp2
  go_ret
  exact ⟨rfl, rfl⟩
theorem isWidth_no (n l : Int) (w : World) (h : n < 1 ∨ l < n) :
    Calls Tryd.prog 75 #[.int .i64 n, .int .i64 l] w fun e w' => e = .returned (.bool false) ∧ w = w' := by
  rcases h with h | h
  · go_enter Tryd.func75, Tryd.ntmps75
    go_wp2
    go_ret
    exact ⟨rfl, rfl⟩
  · have hd : decide (n ≤ l) = false := by simpa using h
    by_cases h1 : 1 ≤ n
    all_goals
      go_enter Tryd.func75, Tryd.ntmps75
      go_wp2
      go_ret
      exact ⟨rfl, rfl⟩
theorem ones_any (n : Nat) (w : World) (h1 : 1 ≤ n) (h2 : n ≤ 32) :
    Calls Tryd.prog 77 #[.int .i64 n] w fun e w' => e = .returned (.int .u32 ((2 ^ n - 1 : Nat) : Int)) ∧ w = w' := by
  go_enter Tryd.func77, Tryd.ntmps77
  go_wp2
  go_ret
  exact ⟨ret_int (ones_eq n h2), rfl⟩
theorem isField_yes (a n : Int) (w : World) (h1 : 1 ≤ n) (h2 : n ≤ 32) (h3 : 0 ≤ a) (h4 : a ≤ 32 - n) :
    Calls Tryd.prog 76 #[.int .i64 a, .int .i64 n] w fun e w' => e = .returned (.bool true) ∧ w = w' := by
  go_enter Tryd.func76, Tryd.ntmps76
  go_wp2_with (go_at_call 75; refine (isWidth_yes _ _ _ h1 h2).mono ?_; rintro e w' ⟨rfl, rfl⟩)
  go_ret
  exact ⟨rfl, rfl⟩
theorem isField_no (a n : Int) (w : World) (h0 : -9223372036854775808 ≤ n) (h1 : n ≤ 9223372036854775807) (h : ¬ (1 ≤ n ∧ n ≤ 32 ∧ 0 ≤ a ∧ a ≤ 32 - n)) :
    Calls Tryd.prog 76 #[.int .i64 a, .int .i64 n] w fun e w' => e = .returned (.bool false) ∧ w = w' := by
  by_cases hw : 1 ≤ n ∧ n ≤ 32
  · obtain ⟨h1, h2⟩ := hw
    by_cases h3 : 0 ≤ a
    · have hd : decide (a ≤ 32 - n) = false := by simp; omega
      go_enter Tryd.func76, Tryd.ntmps76
      go_wp2_with (go_at_call 75; refine (isWidth_yes _ _ _ h1 h2).mono ?_; rintro e w' ⟨rfl, rfl⟩)
      go_ret
      exact ⟨rfl, rfl⟩
    · go_enter Tryd.func76, Tryd.ntmps76
      go_wp2_with (go_at_call 75; refine (isWidth_yes _ _ _ h1 h2).mono ?_; rintro e w' ⟨rfl, rfl⟩)
      go_ret
      exact ⟨rfl, rfl⟩
  · have hw' : n < 1 ∨ 32 < n := by omega
    clear hw h
    go_enter Tryd.func76, Tryd.ntmps76
    go_wp2_with (go_at_call 75; refine (isWidth_no _ _ _ hw').mono ?_; rintro e w' ⟨rfl, rfl⟩)
    go_ret
    exact ⟨rfl, rfl⟩
theorem get_no (x : Int) (a n : Int) (w : World) (h0 : -9223372036854775808 ≤ n) (h1 : n ≤ 9223372036854775807) (h : ¬ (1 ≤ n ∧ n ≤ 32 ∧ 0 ≤ a ∧ a ≤ 32 - n)) :
    Calls Tryd.prog 67 #[.int .u32 x, .int .i64 a, .int .i64 n] w fun e w' => e = .returned (.tuple #[.int .u32 0, .int .i64 2]) ∧ w = w' := by
  go_enter Tryd.func67, Tryd.ntmps67
  go_wp2_with (go_at_call 76; refine (isField_no _ _ _ h0 h1 h).mono ?_; rintro e w' ⟨rfl, rfl⟩)
  go_ret2
  exact ⟨rfl, rfl⟩
theorem get_yes (x a n : Nat) (w : World) (hx : x < 4294967296) (h1 : 1 ≤ n) (h2 : n ≤ 32) (h4 : a + n ≤ 32) :
    Calls Tryd.prog 67 #[.int .u32 x, .int .i64 a, .int .i64 n] w (Qt w (.tuple #[.int .u32 (getF x a n : Nat), .int .i64 0])) := by
  go_enter Tryd.func67, Tryd.ntmps67
  go_wp2_with (go_at_call 76; refine (isField_yes _ _ _ (by omega) (by omega) (by omega) (by omega)).mono ?_; rintro e w' ⟨rfl, rfl⟩)
  go_quiet ((go_at_call 77; exact Qt.at0 (Qt.of_same (ones_any n _ h1 h2))))
  go_wp2
  go_ret2
  exact Qt.eq _ _ (by rw [get_eq x a n hx h2]; rfl)
theorem put_no (x : Int) (a n : Int) (v : Int) (w : World) (h0 : -9223372036854775808 ≤ n) (h1 : n ≤ 9223372036854775807) (h : ¬ (1 ≤ n ∧ n ≤ 32 ∧ 0 ≤ a ∧ a ≤ 32 - n)) :
    Calls Tryd.prog 82 #[.int .u32 x, .int .i64 a, .int .i64 n, .int .u32 v] w fun e w' => e = .returned (.tuple #[.int .u32 0, .int .i64 2]) ∧ w = w' := by
  go_enter Tryd.func82, Tryd.ntmps82
  go_wp2_with (go_at_call 76; refine (isField_no _ _ _ h0 h1 h).mono ?_; rintro e w' ⟨rfl, rfl⟩)
  go_ret2
  exact ⟨rfl, rfl⟩
theorem put_yes (x a n v : Nat) (w : World) (hx : x < 4294967296) (hv : v < 4294967296) (h1 : 1 ≤ n) (h2 : n ≤ 32) (h4 : a + n ≤ 32) :
    Calls Tryd.prog 82 #[.int .u32 x, .int .i64 a, .int .i64 n, .int .u32 v] w (Qt w (.tuple #[.int .u32 (putF x a n v : Nat), .int .i64 0])) := by
  go_enter Tryd.func82, Tryd.ntmps82
  go_wp2_with (go_at_call 76; refine (isField_yes _ _ _ (by omega) (by omega) (by omega) (by omega)).mono ?_; rintro e w' ⟨rfl, rfl⟩)
  go_quiet ((go_at_call 77; exact Qt.at0 (Qt.of_same (ones_any n _ h1 h2))))
  go_wp2
  go_ret2
  exact Qt.eq _ _ (by rw [put_eq x a n v hx hv h2 h4]; rfl)
theorem sign_no (x n : Int) (w : World) (h : n < 1 ∨ 32 < n) :
    Calls Tryd.prog 64 #[.int .u32 x, .int .i64 n] w fun e w' => e = .returned (.tuple #[.int .i64 0, .int .i64 2]) ∧ w = w' := by
  go_enter Tryd.func64, Tryd.ntmps64
  go_wp2_with (go_at_call 75; refine (isWidth_no _ _ _ h).mono ?_; rintro e w' ⟨rfl, rfl⟩)
  go_ret2
  exact ⟨rfl, rfl⟩
theorem sign_yes (x n : Nat) (w : World) (h1 : 1 ≤ n) (h2 : n ≤ 32) :
    Calls Tryd.prog 64 #[.int .u32 x, .int .i64 n] w fun e w' => e = .returned (.tuple #[.int .i64 (signN x n), .int .i64 0]) ∧ w = w' := by
  go_enter Tryd.func64, Tryd.ntmps64
  go_wp2_with (go_at_call 75; refine (isWidth_yes _ _ _ (by omega) (by omega)).mono ?_; rintro e w' ⟨rfl, rfl⟩)
  go_ret2
  exact ⟨by rw [sign_eq x n h1 h2]; rfl, rfl⟩
theorem fits_no (x n : Int) (w : World) (h : n < 1 ∨ 64 < n) :
    Calls Tryd.prog 79 #[.int .i64 x, .int .i64 n] w fun e w' => e = .returned (.bool false) ∧ w = w' := by
  go_enter Tryd.func79, Tryd.ntmps79
  go_wp2_with (go_at_call 75; refine (isWidth_no _ _ _ h).mono ?_; rintro e w' ⟨rfl, rfl⟩)
  go_ret
  exact ⟨rfl, rfl⟩
theorem fits_at (x : Int) (n : Nat) (w : World) (h1 : 1 ≤ n) (h2 : n ≤ 64) :
    Calls Tryd.prog 79 #[.int .i64 x, .int .i64 n] w fun e w' => e = .returned (.bool (fitsB x n)) ∧ w = w' := by
  go_enter Tryd.func79, Tryd.ntmps79
  go_wp2_with (go_at_call 75; refine (isWidth_yes _ _ _ (by omega) (by omega)).mono ?_; rintro e w' ⟨rfl, rfl⟩)
  all_goals
    go_ret
    exact ⟨by simp [fitsB, *], rfl⟩
end Go.Proofs.YtimgongaenpgkaaDoor
