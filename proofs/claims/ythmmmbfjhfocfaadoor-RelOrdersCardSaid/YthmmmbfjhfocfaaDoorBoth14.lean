/- The laws of layer 14: few, awake, both. -/
import Derived.Test.YthmmmbfjhfocfaaDoorSam14
import Derived.Test.YthmmmbfjhfocfaaDoorClo14
import Derived.Deep.QuietTactic
import Derived.BigQuiet
import Derived.Deep.RegionHeld3
namespace Go.Proofs.YthmmmbfjhfocfaaDoor
open Go Go.RowKit
set_option linter.unusedVariables false
set_option linter.unusedSimpArgs false

theorem few_ret (n : Int) (a : Option Addr) (len cap : Nat) (hl : len ≤ 9223372036854775807) (w : World) : Calls Tryd.prog 8 #[.int .i64 n, .slice a len cap] w fun e w' => e = .returned (.bool (decide (n ≤ 80) && decide (len ≤ 300))) ∧ w' = w := by
  by_cases h0 : n ≤ 80
  · rw [decide_eq_true h0, Bool.true_and]
    by_cases h1 : len ≤ 300
    · rw [decide_eq_true h1]
      go_enter Tryd.func8, Tryd.ntmps8
      go_wp2
      go_ret
      have h1' : ((len : Nat) : Int) ≤ 300 := by omega
      simp [h1']
    · rw [decide_eq_false h1]
      go_enter Tryd.func8, Tryd.ntmps8
      go_wp2
      go_ret
      have h1' : ¬ ((len : Nat) : Int) ≤ 300 := by omega
      simp [h1']
  · rw [decide_eq_false h0, Bool.false_and]
    go_enter Tryd.func8, Tryd.ntmps8
    go_wp2
    go_ret
    exact ⟨rfl, rfl⟩
def mAw : Nat → Nat → Bool := addP (addP (fun _ _ => false) 0 1) 1 2
theorem aw1 : wsO mAw 3 3 0 2 = true := by decide +kernel
theorem aw2 : mAw 0 2 = false := by decide +kernel
set_option maxRecDepth 100000 in
theorem awake_ret (w : World) (hG : TzOk w) : Calls Tryd.prog 11 #[] w fun e w' => e = .returned (.bool true) ∧ Below w.heap.size w w' := by
  have HN := hid (fun w => new_mid 3 (by omega) w)
  have HA := hid (fun (w : World) b0 b1 (h : RelC w b0 b1 3 fun _ _ => false) => addYes_ret h (a := 0) (b := 1) (by omega) (by omega))
  have HA2 := hid (fun (w : World) b0 b1 (h : RelC w b0 b1 3 (addP (fun _ _ => false) 0 1)) => addYes_ret h (a := 1) (b := 2) (by omega) (by omega))
  go_enter Tryd.func11, Tryd.ntmps11
  go_wp2_with (go_at_call 9; refine (HN.out _).mono ?_; rintro e' w2 ⟨b0, b1, rfl, hr2, h0, h1, hb2⟩; refine Hid.out ?_)
  have HC := hid (HA.out w2 b0 b1 hr2)
  refine hid ?_
  go_wp2_with (go_at_call 30; refine HC.out.mono ?_; rintro e' w3 ⟨rfl, hr3, hf3⟩; refine Hid.out ?_)
  have HC2 := hid (HA2.out w3 b0 b1 hr3)
  refine hid ?_
  go_wp2_with (go_at_call 30; refine HC2.out.mono ?_; rintro e' w4 ⟨rfl, hr4, hf4⟩; refine Hid.out ?_)
  have hp4 : RelP w4 (some ⟨b0, 0, none⟩) b0 b1 3 mAw := .inr ⟨rfl, hr4⟩
  have HCl := hid (closure_ret hp4)
  have hB4 := Fr.below (Fr.below hb2 hf3 hb2.size (by simp; omega)) hf4 (by have := hb2.size; have := hf3.size; omega) (by simp; omega)
  have Hp4 := hid hp4
  clear hr2 hr3 hr4 hf3 hf4 hp4 HC HC2 HA HA2 HN
  refine hid ?_
  go_wp2_with (go_at_call 23; refine HCl.out.mono ?_; rintro e' w5 ⟨d0, d1, rfl, hr5, k0, k1, hb5⟩; refine Hid.out ?_)
  have HH := hid (has_ret hr5.v 0 2)
  have hp5 := Hp4.out.below hb5
  have HH2 := hid (has_ret hp5.v 0 2)
  rw [show hasZ 3 (wsO mAw 3 3) 0 2 = true by unfold hasZ; rw [show ((0 : Int).toNat) = 0 from rfl, show ((2 : Int).toNat) = 2 from rfl, aw1]; rfl] at HH
  rw [show hasZ 3 mAw 0 2 = false by unfold hasZ; rw [show ((0 : Int).toNat) = 0 from rfl, show ((2 : Int).toNat) = 2 from rfl, aw2]; rfl] at HH2
  have hB5 := hB4.trans (hb5.mono hB4.size)
  clear hp5 hr5
  refine hid ?_
  go_wp2_with (first | (go_at_call 16; refine HH.out.mono ?_; clear HH; rintro e' w6 ⟨rfl, rfl⟩) | (go_at_call 16; refine HH2.out.mono ?_; clear HH2; rintro e' w6 ⟨rfl, rfl⟩))
  go_ret
  exact ⟨rfl, hB5⟩
end Go.Proofs.YthmmmbfjhfocfaaDoor
