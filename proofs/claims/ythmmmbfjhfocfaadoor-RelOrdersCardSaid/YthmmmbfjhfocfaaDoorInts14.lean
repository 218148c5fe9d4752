/- Two lists of ints that are the same: the contract of layer 2's text, by itself. -/
import Derived.Test.YthmmmbfjhfocfaaDoorRows
import Derived.Test.YthmmmbfjhfocfaaDoorKit02
import Derived.Deep.QuietTactic
import Derived.BigQuiet
namespace Go.Proofs.YthmmmbfjhfocfaaDoor
open Go.RowKit

theorem refInts_none (w : World) (a b : Option Addr) (ca cb : Nat) :
    Calls Tryd.prog 28 #[.slice a 0 ca, .slice b 0 cb] w (Qt w (.bool true)) := by
  go_enter Tryd.func28, Tryd.ntmps28
  go_wp2
  refine wp_loop_rounds 1 ?_
  rw [rounds_succ]
  go_wp2
  go_ret
  exact Qt.mk0 _ _
theorem refInts_some (w : World) (b off b' off' n ca cb : Nat) (f : Nat → Int) (hm : n ≤ 9223372036854775807)
    (hf : ∀ i, i < n → w.cell? ⟨b, off + i, none⟩ = some (.int .i64 (f i))) (hg : ∀ i, i < n → w.cell? ⟨b', off' + i, none⟩ = some (.int .i64 (f i))) :
    Calls Tryd.prog 28 #[.slice (some ⟨b, off, none⟩) n ca, .slice (some ⟨b', off', none⟩) n cb] w (Qt w (.bool true)) := by
  have hne : ((n : Int) != n) = false := by simp
  have Hf := hid hf
  have Hg := hid hg
  clear hf hg
  go_enter Tryd.func28, Tryd.ntmps28
  go_wp2
  go_loopw [5] (fun k wr => ∃ j m : Nat, j ≤ n ∧ k = .int .i64 j ∧ wr = w.drewN m) (fun k _ => n - (intOf k).toNat)
  case atStart => exact ⟨0, 0, Nat.zero_le _, rfl, rfl⟩
  case round =>
    obtain ⟨j, m, hj, rfl, rfl⟩ := hrel
    by_cases hlt : j < n
    · have h1 := Hf.out j hlt
      have h2 := Hg.out j hlt
      clear Hf Hg
      go_wp2
      go_quiet (fail)
      go_wp2
      go_roundw
      case rel => exact ⟨j + 1, _, by omega, by go_num, rfl⟩
      case measure => simp [intOf]; omega
    · go_wp2
      go_ret
      exact Qt.mk _ _ _
theorem refInts_yes {w : World} {B B' : Nat} {u v : Value} {xs : List Int} (hm : xs.length ≤ 9223372036854775807) (hu : RdI .i64 w B u xs) (hv : RdI .i64 w B' v xs) :
    Calls Tryd.prog 28 #[u, v] w (Qt w (.bool true)) := by
  obtain ⟨a, ca, rfl, h1⟩ := hu
  obtain ⟨b, cb, rfl, h2⟩ := hv
  rcases Nat.eq_zero_or_pos xs.length with h0 | h0
  · rw [h0]; exact refInts_none w a b ca cb
  · obtain ⟨b1, o1, rfl, _, h1⟩ := h1 h0
    obtain ⟨b2, o2, rfl, _, h2⟩ := h2 h0
    exact refInts_some w b1 o1 b2 o2 _ ca cb (fun i => xs.getD i 0) hm h1 h2
end Go.Proofs.YthmmmbfjhfocfaaDoor
