/- Contracts of package word (layer 1), one for each function. -/
import Derived.Test.YtilljoemebbnjaaDoorK03
import Derived.Test.YtilljoemebbnjaaDoorRows
set_option linter.unusedVariables false
set_option linter.unusedSimpArgs false
namespace Go.Proofs.YtilljoemebbnjaaDoor
open Go.RowKit
theorem isWidth_yes (n l : Int) (w : World) (h1 : 1 <= n) (h2 : n <= l) :
   Calls Tryd.prog 90 #[.int .i64 n, .int .i64 l] w fun e w' => e = .returned (.bool true) /\ w = w' := by
 go_enter Tryd.func90, Tryd.ntmps90
 go_wp2
 go_ret
 exact ⟨rfl, rfl⟩
theorem isWidth_no (n l : Int) (w : World) (h : n < 1 \/ l < n) :
   Calls Tryd.prog 90 #[.int .i64 n, .int .i64 l] w fun e w' => e = .returned (.bool false) /\ w = w' := by
 rcases h with h | h
 . go_enter Tryd.func90, Tryd.ntmps90
   go_wp2
   go_ret
   exact ⟨rfl, rfl⟩
 . have hd : decide (n <= l) = false := by simpa using h
   by_cases h1 : 1 <= n
   all_goals
     go_enter Tryd.func90, Tryd.ntmps90
     go_wp2
     go_ret
     exact ⟨rfl, rfl⟩
theorem ones_any (n : Nat) (w : World) (h1 : 1 <= n) (h2 : n <= 32) :
   Calls Tryd.prog 98 #[.int .i64 n] w fun e w' => e = .returned (.int .u32 ((2 ^ n - 1 : Nat) : Int)) /\ w = w' := by
 go_enter Tryd.func98, Tryd.ntmps98
 go_wp2
 go_ret
 exact ⟨ret_int (ones_eq n h2), rfl⟩
theorem isField_yes (a n : Int) (w : World) (h1 : 1 <= n) (h2 : n <= 32) (h3 : 0 <= a) (h4 : a <= 32 - n) :
   Calls Tryd.prog 97 #[.int .i64 a, .int .i64 n] w fun e w' => e = .returned (.bool true) /\ w = w' := by
 go_enter Tryd.func97, Tryd.ntmps97
 go_wp2_with (go_at_call 90; refine (isWidth_yes _ _ _ h1 h2).mono ?_; rintro e w' ⟨rfl, rfl⟩)
 go_ret
 exact ⟨rfl, rfl⟩
theorem put_yes (x a n v : Nat) (w : World) (hx : x < 4294967296) (hv : v < 4294967296) (h1 : 1 <= n) (h2 : n <= 32) (h4 : a + n <= 32) :
   Calls Tryd.prog 93 #[.int .u32 x, .int .i64 a, .int .i64 n, .int .u32 v] w (Qt w (.tuple #[.int .u32 (putF x a n v : Nat), .int .i64 0])) := by
 go_enter Tryd.func93, Tryd.ntmps93
 go_wp2_with (go_at_call 97; refine (isField_yes _ _ _ (by omega) (by omega) (by omega) (by omega)).mono ?_; rintro e w' ⟨rfl, rfl⟩)
 go_quiet ((go_at_call 98; exact Qt.at0 (Qt.of_same (ones_any n _ h1 h2))))
 go_wp2
 go_ret2
 exact Qt.eq _ _ (by rw [put_eq x a n v hx hv h2 h4]; rfl)
theorem fits_no (x n : Int) (w : World) (h : n < 1 \/ 64 < n) :
   Calls Tryd.prog 72 #[.int .i64 x, .int .i64 n] w fun e w' => e = .returned (.bool false) /\ w = w' := by
 go_enter Tryd.func72, Tryd.ntmps72
 go_wp2_with (go_at_call 90; refine (isWidth_no _ _ _ h).mono ?_; rintro e w' ⟨rfl, rfl⟩)
 go_ret
 exact ⟨rfl, rfl⟩
theorem fits_at (x : Int) (n : Nat) (w : World) (h1 : 1 <= n) (h2 : n <= 64) :
   Calls Tryd.prog 72 #[.int .i64 x, .int .i64 n] w fun e w' => e = .returned (.bool (fitsB x n)) /\ w = w' := by
 go_enter Tryd.func72, Tryd.ntmps72
 go_wp2_with (go_at_call 90; refine (isWidth_yes _ _ _ (by omega) (by omega)).mono ?_; rintro e w' ⟨rfl, rfl⟩)
 all_goals
   go_ret
   exact ⟨by simp [fitsB, *], rfl⟩
end Go.Proofs.YtilljoemebbnjaaDoor
