/- Contracts of the answers by definition for layer 1. -/
import Derived.Test.YtcofdcpadbpmnaaRows
import Derived.Test.YtcofdcpadbpmnaaPlain01
import Derived.Test.YtcofdcpadbpmnaaKit01
namespace Go.Proofs.Ytcofdcpadbpmnaa
open Go.RowKit

theorem refBit_any (v i : Nat) (w : World) (hv : v < 18446744073709551616) (hi : i ≤ 64) :
    Calls Try.prog 22 #[.int .u64 v, .int .i64 i] w fun e w' => e = .returned (.int .i64 (bitN v i : Nat)) ∧ w = w' := by
  go_enter Try.func22, Try.ntmps22
  go_wp2
  go_loop [0, 5] (fun a k => ∃ j : Nat, j ≤ i ∧ k = .int .i64 j ∧ a = .int .u64 (shrN v j : Nat)) (fun _ k => i - (intOf k).toNat)
  case atStart => exact ⟨0, Nat.zero_le _, rfl, by rw [shrN_zero]⟩
  case round =>
    obtain ⟨j, hj, rfl, rfl⟩ := hrel
    have hle := shrN_le v j
    by_cases hlt : j < i
    · have hs := hid (shrN_succ v j)
      go_wp2
      go_round
      case rel => exact ⟨j + 1, by omega, by go_num, by rw [hs.out]; go_num⟩
      case measure => simp [intOf]; omega
    · go_wp2
      go_ret
      obtain rfl : i = j := by omega
      exact ⟨ret_int (by rw [← shrN_bit]; omega), rfl⟩
theorem refSign_any (v n : Nat) (w : World) (hv : v < 18446744073709551616) (h1 : 1 ≤ n) (h2 : n ≤ 32) :
    Calls Try.prog 30 #[.int .u64 v, .int .i64 n] w fun e w' => e = .returned (.int .i64 (signN v n)) ∧ w = w' := by
  go_enter Try.func30, Try.ntmps30
  go_wp2
  go_loop [5, 6, 7] (fun o p k => ∃ j : Nat, j ≤ n - 1 ∧ k = .int .i64 j ∧ p = .int .i64 (powN j : Nat) ∧ o = .int .i64 (modN v j : Nat)) (fun _ _ k => n - (intOf k).toNat)
  case atStart => exact ⟨0, Nat.zero_le _, rfl, rfl, by rw [modN_zero]; rfl⟩
  case round =>
    obtain ⟨j, hj, rfl, rfl, rfl⟩ := hrel
    have h1 := powN_le j 31 (by omega)
    rw [powN_31] at h1
    have h3 := modN_lt v j
    have hb : bitN v j = 0 ∨ bitN v j = 1 := by have := bitN_lt v j; omega
    have hs := hid (powN_succ j)
    have hm := hid (modN_succ v j)
    by_cases hlt : j < n - 1
    · rcases hb with hb | hb
      all_goals
        have hc := fun W => refBit_any v j W hv (by omega)
        rw [hb] at hm hc
        clear hb
        go_wp2_with (go_at_call 22; refine (hc _).mono ?_; rintro e w' ⟨rfl, rfl⟩)
        go_round
        case rel => exact ⟨j + 1, by omega, by go_num, by rw [hs.out]; go_num, by rw [hm.out]; go_num⟩
        case measure => simp [intOf]; omega
    · obtain rfl : n = j + 1 := by omega
      have hf := hid (signN_eq v (j + 1))
      rcases hb with hb | hb
      all_goals
        have hc := fun W => refBit_any v j W hv (by omega)
        rw [Nat.add_sub_cancel, hb] at hf
        rw [hb] at hc
        clear hb
        go_wp2_with (go_at_call 22; refine (hc _).mono ?_; rintro e w' ⟨rfl, rfl⟩)
        go_ret
        exact ⟨ret_int (by rw [hf.out]; omega), rfl⟩
theorem refPower_any (n : Nat) (w : World) (h2 : n ≤ 63) :
    Calls Try.prog 50 #[.int .i64 n] w fun e w' => e = .returned (.int .u64 (2 ^ n : Nat)) ∧ w = w' := by
  go_enter Try.func50, Try.ntmps50
  go_wp2
  go_loop [3, 4] (fun p k => ∃ j : Nat, j ≤ n ∧ k = .int .i64 j ∧ p = .int .u64 (powN j : Nat)) (fun _ k => n - (intOf k).toNat)
  case atStart => exact ⟨0, Nat.zero_le _, rfl, rfl⟩
  case round =>
    obtain ⟨j, hj, rfl, rfl⟩ := hrel
    by_cases hlt : j < n
    · have h1 := powN_le (j + 1) 63 (by omega)
      have hs := hid (powN_succ j)
      rw [powN_63] at h1
      have h3 : 2 * powN j ≤ 9223372036854775808 := by rw [← hs.out]; exact h1
      clear h1
      go_wp2
      go_round
      case rel => exact ⟨j + 1, by omega, by go_num, by rw [hs.out]; go_num⟩
      case measure => simp [intOf]; omega
    · go_wp2
      go_ret
      obtain rfl : n = j := by omega
      exact ⟨rfl, rfl⟩
end Go.Proofs.Ytcofdcpadbpmnaa
