/- Contracts of the answers by definition for layer 1. -/
import Derived.Test.YtohefnfombkkbaaRows
import Derived.Test.YtohefnfombkkbaaPlain01
import Derived.Test.YtohefnfombkkbaaKit01
namespace Go.Proofs.Ytohefnfombkkbaa
open Go.RowKit

theorem refPower_any (n : Nat) (w : World) (h2 : n ≤ 63) :
    Calls Try.prog 64 #[.int .i64 n] w fun e w' => e = .returned (.int .u64 (2 ^ n : Nat)) ∧ w = w' := by
  go_enter Try.func64, Try.ntmps64
  go_wp2
  go_loop [3, 4] (fun p k => ∃ j : Nat, j ≤ n ∧ k = .int .i64 j ∧ p = .int .u64 (powN j : Nat)) (fun _ k => n - (intOf k).toNat)
  case atStart => exact ⟨0, Nat.zero_le _, rfl, rfl⟩
  case round =>
    obtain ⟨j, hj, rfl, rfl⟩ := hrel
    by_cases hlt : j < n
    · have h1 := powN_le (j + 1) 63 (by omega)
      have hs := hid (powN_succ j)
      rw [powN_63] at h1
      have h3 : 2 * powN j ≤ 9223372036854775808 := by rw [← hs.out]; exact h1
      clear h1
      go_wp2
      go_round
      case rel => exact ⟨j + 1, by omega, by go_num, by rw [hs.out]; go_num⟩
      case measure => simp [intOf]; omega
    · go_wp2
      go_ret
      obtain rfl : n = j := by omega
      exact ⟨rfl, rfl⟩
theorem refFits_out (x n : Int) (w : World) (h : n < 1 ∨ 64 < n) :
    Calls Try.prog 61 #[.int .i64 x, .int .i64 n] w fun e w' => e = .returned (.bool false) ∧ w = w' := by
  rcases h with h | h
  all_goals
    go_enter Try.func61, Try.ntmps61
    go_wp2_with fail
    go_ret
    exact ⟨rfl, rfl⟩
theorem refFits_any (x : Int) (n : Nat) (w : World) (h1 : 1 ≤ n) (h2 : n ≤ 64) (h0 : -9223372036854775808 ≤ x) (h3 : x ≤ 9223372036854775807) (b : Bool) (hb : fitsB x n = b) :
    Calls Try.prog 61 #[.int .i64 x, .int .i64 n] w fun e w' => e = .returned (.bool b) ∧ w = w' := by
  by_cases h64 : n = 64
  · subst h64
    rw [fitsB_64 x h0 h3] at hb
    subst hb
    clear h0 h3
    go_enter Try.func61, Try.ntmps61
    go_wp2_with fail
    go_ret
    exact ⟨rfl, rfl⟩
  · have h4 : n ≤ 63 := by omega
    have hne : ((n : Int) == 64) = false := by simp; omega
    have hp := powN_le (n - 1) 62 (by omega)
    have h62 : powN 62 = 4611686018427387904 := by decide
    rw [h62] at hp
    have hpc := hid (fun W => refPower_any (n - 1) W (by omega))
    have hiff := fitsB_iff x n
    rw [hb] at hiff
    have hcast : ((n : Int) - 1) = ((n - 1 : Nat) : Int) := by omega
    have hpe : (2 ^ (n - 1) : Nat) = powN (n - 1) := rfl
    rw [hpe] at hiff hpc
    cases b
    · have hno : x < -(powN (n - 1) : Int) ∨ (powN (n - 1) : Int) - 1 < x := by
        refine Decidable.byContradiction fun hc => ?_
        have := hiff.mpr ⟨by omega, by omega⟩
        cases this
      clear hiff hb h62 hpe
      by_cases hA : -(powN (n - 1) : Int) ≤ x
      · have hB : (powN (n - 1) : Int) - 1 < x := by omega
        have hd : decide (x ≤ (powN (n - 1) : Int) - 1) = false := by simpa using hB
        clear hno
        go_enter Try.func61, Try.ntmps61
        go_wp2_with (go_at_call 64; refine (hpc.out _).mono ?_; rintro e w' ⟨rfl, rfl⟩)
        go_ret
        exact ⟨rfl, rfl⟩
      · clear hno
        go_enter Try.func61, Try.ntmps61
        go_wp2_with (go_at_call 64; refine (hpc.out _).mono ?_; rintro e w' ⟨rfl, rfl⟩)
        go_ret
        exact ⟨rfl, rfl⟩
    · obtain ⟨hA, hB⟩ := hiff.mp rfl
      clear hiff hb h62 hpe
      have hC : x ≤ (powN (n - 1) : Int) - 1 := by omega
      clear hB
      go_enter Try.func61, Try.ntmps61
      go_wp2_with (go_at_call 64; refine (hpc.out _).mono ?_; rintro e w' ⟨rfl, rfl⟩)
      go_ret
      exact ⟨rfl, rfl⟩
end Go.Proofs.Ytohefnfombkkbaa
