/- Contracts of the answers by definition for layer 2. -/
import Derived.Test.YtgcglmnbkilfhaaGreatDoorRows
import Derived.Test.YtgcglmnbkilfhaaGreatDoorPlain02
import Derived.Test.YtgcglmnbkilfhaaGreatDoorKit02
namespace Go.Proofs.YtgcglmnbkilfhaaGreatDoor
open Go.RowKit

theorem refDigits_any (n : Nat) (w : World) (h : n < 100) :
    Calls Tryz.prog 49 #[.int .i64 (n : Nat)] w (Qt w (.string (decS n))) := by
  by_cases hlt : n < 10
  · rw [decS_lo n hlt]
    go_enter Tryz.func49, Tryz.ntmps49
    go_wp2_with fail
    go_ret
    exact Qt.eq0 _ (by rw [← digS_cut n hlt]; rfl)
  · rw [decS_hi n hlt]
    go_enter Tryz.func49, Tryz.ntmps49
    go_wp2_with fail
    go_quiet (fail)
    go_wp2
    go_ret
    exact Qt.eq _ _ (by rw [← digS_cut (n / 10) (by omega), ← digS_cut (n % 10) (by omega)]; rfl)
theorem refName_yes (r : Nat) (w : World) (h : r < 32) :
    Calls Tryz.prog 22 #[.int .i64 (r : Nat)] w (Qt w (.string (numS r))) := by
  have hs := decS_size r
  go_enter Tryz.func22, Tryz.ntmps22
  go_wp2_with (go_at_call 49; refine (refDigits_any r _ (by omega)).mono ?_; rintro e w' ⟨rfl, m, rfl⟩)
  go_ret
  exact Qt.mk _ _ _
theorem refName_no (r : Int) (w : World) (h : r < 0 ∨ 32 ≤ r) :
    Calls Tryz.prog 22 #[.int .i64 r] w fun e w' => e = .returned (.string ⟨#[]⟩) ∧ w = w' := by
  by_cases h0 : r < 0
  all_goals
    go_enter Tryz.func22, Tryz.ntmps22
    go_wp2_with fail
    go_ret
    exact ⟨rfl, rfl⟩
end Go.Proofs.YtgcglmnbkilfhaaGreatDoor
