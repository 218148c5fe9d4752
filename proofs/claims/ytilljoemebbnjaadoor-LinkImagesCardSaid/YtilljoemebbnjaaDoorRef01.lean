/- Contracts of the answers by definition for layer 1. -/
import Derived.Test.YtilljoemebbnjaaDoorK03
import Derived.Test.YtilljoemebbnjaaDoorRows
set_option linter.unusedVariables false
set_option linter.unusedSimpArgs false
namespace Go.Proofs.YtilljoemebbnjaaDoor
open Go.RowKit
theorem refBit_any (v i : Nat) (w : World) (hv : v < 18446744073709551616) (hi : i <= 64) :
   Calls Tryd.prog 54 #[.int .u64 v, .int .i64 i] w fun e w' => e = .returned (.int .i64 (bitN v i : Nat)) /\ w = w' := by
 go_enter Tryd.func54, Tryd.ntmps54
 go_wp2
 go_loop [0, 5] (fun a k => ∃ j : Nat, j <= i /\ k = .int .i64 j /\ a = .int .u64 (shrN v j : Nat)) (fun _ k => i - (intOf k).toNat)
 case atStart => exact ⟨0, Nat.zero_le _, rfl, by rw [shrN_zero]⟩
 case round =>
   obtain ⟨j, hj, rfl, rfl⟩ := hrel
   have hle := shrN_le v j
   by_cases hlt : j < i
   . have hs := hid (shrN_succ v j)
     go_wp2
     go_round
     case rel => exact ⟨j + 1, by omega, by go_num, by rw [hs.out]; go_num⟩
     case measure => simp [intOf]; omega
   . go_wp2
     go_ret
     obtain rfl : i = j := by omega
     exact ⟨ret_int (by rw [<- shrN_bit]; omega), rfl⟩
theorem refSign_any (v n : Nat) (w : World) (hv : v < 18446744073709551616) (h1 : 1 <= n) (h2 : n <= 32) :
   Calls Tryd.prog 52 #[.int .u64 v, .int .i64 n] w fun e w' => e = .returned (.int .i64 (signN v n)) /\ w = w' := by
 go_enter Tryd.func52, Tryd.ntmps52
 go_wp2
 go_loop [5, 6, 7] (fun o p k => ∃ j : Nat, j <= n - 1 /\ k = .int .i64 j /\ p = .int .i64 (powN j : Nat) /\ o = .int .i64 (modN v j : Nat)) (fun _ _ k => n - (intOf k).toNat)
 case atStart => exact ⟨0, Nat.zero_le _, rfl, rfl, by rw [modN_zero]; rfl⟩
 case round =>
   obtain ⟨j, hj, rfl, rfl, rfl⟩ := hrel
   have h1 := powN_le j 31 (by omega)
   rw [powN_31] at h1
   have h3 := modN_lt v j
   have hb : bitN v j = 0 \/ bitN v j = 1 := by have := bitN_lt v j; omega
   have hs := hid (powN_succ j)
   have hm := hid (modN_succ v j)
   by_cases hlt : j < n - 1
   . rcases hb with hb | hb
     all_goals
       have hc := fun W => refBit_any v j W hv (by omega)
       rw [hb] at hm hc
       clear hb
       go_wp2_with (go_at_call 54; refine (hc _).mono ?_; rintro e w' ⟨rfl, rfl⟩)
       go_round
       case rel => exact ⟨j + 1, by omega, by go_num, by rw [hs.out]; go_num, by rw [hm.out]; go_num⟩
       case measure => simp [intOf]; omega
   . obtain rfl : n = j + 1 := by omega
     have hf := hid (signN_eq v (j + 1))
     rcases hb with hb | hb
     all_goals
       have hc := fun W => refBit_any v j W hv (by omega)
       rw [Nat.add_sub_cancel, hb] at hf
       rw [hb] at hc
       clear hb
       go_wp2_with (go_at_call 54; refine (hc _).mono ?_; rintro e w' ⟨rfl, rfl⟩)
       go_ret
       exact ⟨ret_int (by rw [hf.out]; omega), rfl⟩
theorem refPower_any (n : Nat) (w : World) (h2 : n <= 63) :
   Calls Tryd.prog 55 #[.int .i64 n] w fun e w' => e = .returned (.int .u64 (2 ^ n : Nat)) /\ w = w' := by
 go_enter Tryd.func55, Tryd.ntmps55
 go_wp2
 go_loop [3, 4] (fun p k => ∃ j : Nat, j <= n /\ k = .int .i64 j /\ p = .int .u64 (powN j : Nat)) (fun _ k => n - (intOf k).toNat)
 case atStart => exact ⟨0, Nat.zero_le _, rfl, rfl⟩
 case round =>
   obtain ⟨j, hj, rfl, rfl⟩ := hrel
   by_cases hlt : j < n
   . have h1 := powN_le (j + 1) 63 (by omega)
     have hs := hid (powN_succ j)
     rw [powN_63] at h1
     have h3 : 2 * powN j <= 9223372036854775808 := by rw [<- hs.out]; exact h1
     clear h1
     go_wp2
     go_round
     case rel => exact ⟨j + 1, by omega, by go_num, by rw [hs.out]; go_num⟩
     case measure => simp [intOf]; omega
   . go_wp2
     go_ret
     obtain rfl : n = j := by omega
     exact ⟨rfl, rfl⟩
theorem refFits_any (x : Int) (n : Nat) (w : World) (h1 : 1 <= n) (h2 : n <= 64) (h0 : -9223372036854775808 <= x) (h3 : x <= 9223372036854775807) (b : Bool) (hb : fitsB x n = b) :
   Calls Tryd.prog 51 #[.int .i64 x, .int .i64 n] w fun e w' => e = .returned (.bool b) /\ w = w' := by
 by_cases h64 : n = 64
 . subst h64
   rw [fitsB_64 x h0 h3] at hb
   subst hb
   clear h0 h3
   go_enter Tryd.func51, Tryd.ntmps51
   go_wp2_with fail
   go_ret
   exact ⟨rfl, rfl⟩
 . have h4 : n <= 63 := by omega
   have hne : ((n : Int) == 64) = false := by simp; omega
   have hp := powN_le (n - 1) 62 (by omega)
   have h62 : powN 62 = 4611686018427387904 := by decide
   rw [h62] at hp
   have hpc := hid (fun W => refPower_any (n - 1) W (by omega))
   have hiff := fitsB_iff x n
   rw [hb] at hiff
   have hcast : ((n : Int) - 1) = ((n - 1 : Nat) : Int) := by omega
   have hpe : (2 ^ (n - 1) : Nat) = powN (n - 1) := rfl
   rw [hpe] at hiff hpc
   cases b
   . have hno : x < -(powN (n - 1) : Int) \/ (powN (n - 1) : Int) - 1 < x := by
       refine Decidable.byContradiction fun hc => ?_
       have := hiff.mpr ⟨by omega, by omega⟩
       cases this
     clear hiff hb h62 hpe
     by_cases hA : -(powN (n - 1) : Int) <= x
     . have hB : (powN (n - 1) : Int) - 1 < x := by omega
       have hd : decide (x <= (powN (n - 1) : Int) - 1) = false := by simpa using hB
       clear hno
       go_enter Tryd.func51, Tryd.ntmps51
       go_wp2_with (go_at_call 55; refine (hpc.out _).mono ?_; rintro e w' ⟨rfl, rfl⟩)
       go_ret
       exact ⟨rfl, rfl⟩
     . clear hno
       go_enter Tryd.func51, Tryd.ntmps51
       go_wp2_with (go_at_call 55; refine (hpc.out _).mono ?_; rintro e w' ⟨rfl, rfl⟩)
       go_ret
       exact ⟨rfl, rfl⟩
   . obtain ⟨hA, hB⟩ := hiff.mp rfl
     clear hiff hb h62 hpe
     have hC : x <= (powN (n - 1) : Int) - 1 := by omega
     clear hB
     go_enter Tryd.func51, Tryd.ntmps51
     go_wp2_with (go_at_call 55; refine (hpc.out _).mono ?_; rintro e w' ⟨rfl, rfl⟩)
     go_ret
     exact ⟨rfl, rfl⟩
end Go.Proofs.YtilljoemebbnjaaDoor
