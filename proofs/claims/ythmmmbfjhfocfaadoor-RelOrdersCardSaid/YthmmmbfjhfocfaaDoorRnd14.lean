/- The reference's Rounds of layer 14. -/
import Derived.Test.YthmmmbfjhfocfaaDoorLds14
namespace Go.Proofs.YthmmmbfjhfocfaaDoor
open Go Go.RowKit
set_option linter.unusedVariables false
set_option linter.unusedSimpArgs false

noncomputable def rnB (m : Nat → Nat → Bool) : Bool := @decide (∃ x, TG m x x) (Classical.propDecidable _)
theorem rnB_iff {m : Nat → Nat → Bool} : rnB m = true ↔ ∃ x, TG m x x := by unfold rnB; exact @decide_eq_true_iff _ (Classical.propDecidable _)
theorem rnB_no {m : Nat → Nat → Bool} (h : ∀ x, ¬ TG m x x) : rnB m = false := by
  cases hr : rnB m
  · rfl
  · obtain ⟨x, hx⟩ := rnB_iff.1 hr
    exact absurd hx (h x)
theorem acyc_rn {n : Nat} {m : Nat → Nat → Bool} (hn : n ≤ 512) (hm : ∀ a b, m a b = true → a < n ∧ b < n) : decide ((gr n m n).length = n) = !rnB m := by
  cases hr : rnB m
  · have : ∀ x, ¬ TG m x x := fun x hx => by rw [rnB_iff.2 ⟨x, hx⟩] at hr; cases hr
    simp [(acyc_iff hn hm).2 this]
  · obtain ⟨x, hx⟩ := rnB_iff.1 hr
    have : ¬ (gr n m n).length = n := fun h => (acyc_iff hn hm).1 h x hx
    simp [this]
set_option maxRecDepth 100000 in
set_option maxHeartbeats 4000000 in
theorem rounds_ret {w : World} {c0 N : Nat} {v : Value} {ρ : Nat → Nat} {m : Nat → Nat → Bool} (h : RfC w c0 N v ρ m) : Calls Tryd.prog 26 #[.pointer (some ⟨c0, 0, none⟩)] w fun e w' => e = .returned (.bool (rnB m)) ∧ Below w.heap.size w w' := by
  have HX := hid (leads_ret h)
  have HR := hid h
  have h5 := h.n512
  clear h
  go_enter Tryd.func26, Tryd.ntmps26
  go_wp2_with (go_at_call 24; refine HX.out.mono ?_; clear HX; rintro e' w1 ⟨d0, v', ρ', rfl, ho, hb⟩; refine Hid.out ?_)
  have hcn := (HR.out.below hb).ncell
  have hm := HR.out.inn
  have HO := hid ho
  have HB := hid hb
  have HM := hid hm
  clear ho hb hm HR
  refine hid ?_
  go_wp2
  go_loopw [4] (fun v4 wr => ∃ i : Nat, i ≤ N ∧ v4 = .int .i64 i ∧ wr = w1 ∧ ∀ p, p < i → tcB m p p = false) (fun v4 _ => N - (intOf v4).toNat)
  case atStart => exact ⟨0, Nat.zero_le _, rfl, rfl, fun p hp => by omega⟩
  case round =>
    obtain ⟨i, hi, rfl, rfl, hp⟩ := hrel
    have HP := hid hp
    clear hp
    by_cases hlt : i < N
    · obtain ⟨d1, cap2, rfl, _, _⟩ := HO.out.at1 (by omega)
      have hv2 := HO.out.vcell
      obtain ⟨s1, s2⟩ := HO.out.rds hlt hlt
      have hi' : ((i : Int)).toNat = i := by omega
      cases ht : tcB m i i
      · rw [ht] at s2
        have HT := hid ht
        clear ht
        go_wp2
        go_roundw
        case rel => exact ⟨i + 1, by omega, by go_num, (by first | rfl | trivial), fun p hp => by
          by_cases hpi : p = i
          · rw [hpi]; exact HT.out
          · exact HP.out p (by omega)⟩
        case measure => simp [intOf]; omega
      · rw [ht] at s2
        have hr := rnB_iff.2 ⟨i, tcB_iff.1 ht⟩
        clear ht
        go_wp2
        go_ret
        exact ⟨by rw [hr]; rfl, HB.out⟩
    · obtain rfl : i = N := by omega
      have hr : rnB m = false := rnB_no fun x hx => by
        have := HP.out x (hx.lt HM.out).1
        rw [tcB_iff.2 hx] at this; cases this
      go_wp2
      go_ret
      exact ⟨by rw [hr]; rfl, HB.out⟩
end Go.Proofs.YthmmmbfjhfocfaaDoor
