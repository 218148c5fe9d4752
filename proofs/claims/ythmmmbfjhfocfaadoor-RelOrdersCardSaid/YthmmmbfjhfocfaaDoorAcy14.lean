/- Acyclic of package rel. -/
import Derived.Test.YthmmmbfjhfocfaaDoorOrd14
namespace Go.Proofs.YthmmmbfjhfocfaaDoor
open Go Go.RowKit
set_option linter.unusedVariables false
set_option linter.unusedSimpArgs false

theorem acyclic_ret {w : World} {p : Option Addr} {b0 b1 n : Nat} {m : Nat → Nat → Bool} (h : RelP w p b0 b1 n m) (hG : TzOk w) : Calls Tryd.prog 25 #[.pointer p] w fun e w' => e = .returned (.bool (decide ((gr n m n).length = n))) ∧ Below w.heap.size w w' := by
  have HO := hid (order_ret h hG)
  clear h hG
  go_enter Tryd.func25, Tryd.ntmps25
  go_wp2_with (go_at_call 27; refine HO.out.mono ?_; rintro e' w2 ⟨v, rfl, _, hb⟩)
  go_ret
  exact ⟨rfl, hb⟩
end Go.Proofs.YthmmmbfjhfocfaaDoor
