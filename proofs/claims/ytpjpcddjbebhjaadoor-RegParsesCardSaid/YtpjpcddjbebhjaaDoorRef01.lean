/- Contracts of the answers by definition for layer 1. -/
import Derived.Test.YtpjpcddjbebhjaaDoorRows
import Derived.Test.YtpjpcddjbebhjaaDoorPlain01
import Derived.Test.YtpjpcddjbebhjaaDoorKit01
namespace Go.Proofs.YtpjpcddjbebhjaaDoor
open Go.RowKit

theorem refBit_any (v i : Nat) (w : World) (hv : v < 18446744073709551616) (hi : i ≤ 64) :
    Calls Tryd.prog 24 #[.int .u64 v, .int .i64 i] w fun e w' => e = .returned (.int .i64 (bitN v i : Nat)) ∧ w = w' := by
  go_enter Tryd.func24, Tryd.ntmps24
  go_wp2
  go_loop [0, 5] (fun a k => ∃ j : Nat, j ≤ i ∧ k = .int .i64 j ∧ a = .int .u64 (shrN v j : Nat)) (fun _ k => i - (intOf k).toNat)
  case atStart => exact ⟨0, Nat.zero_le _, rfl, by rw [shrN_zero]⟩
  case round =>
    obtain ⟨j, hj, rfl, rfl⟩ := hrel
    have hle := shrN_le v j
    by_cases hlt : j < i
    · have hs := hid (shrN_succ v j)
      go_wp2
      go_round
      case rel => exact ⟨j + 1, by omega, by go_num, by rw [hs.out]; go_num⟩
      case measure => simp [intOf]; omega
    · go_wp2
      go_ret
      obtain rfl : i = j := by omega
      exact ⟨ret_int (by rw [← shrN_bit]; omega), rfl⟩
end Go.Proofs.YtpjpcddjbebhjaaDoor
