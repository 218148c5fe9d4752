/- The law RelNobody of layer 14. -/
import Derived.Test.YthmmmbfjhfocfaaDoorLawP14
import Derived.Test.YthmmmbfjhfocfaaDoorUni14
import Derived.Test.YthmmmbfjhfocfaaDoorAft14
import Derived.Test.YthmmmbfjhfocfaaDoorAcy14
namespace Go.Proofs.YthmmmbfjhfocfaaDoor
open Go Go.RowKit
set_option linter.unusedVariables false
set_option linter.unusedSimpArgs false

theorem relP_none (w : World) : RelP w none 0 0 0 noP := .inl ⟨rfl, rfl, rfl⟩
theorem relV_none (w : World) : RelV w (.pointer none) 0 noP := (relP_none w).v
section
variable {w W : World} {b0 b1 c0 N : Nat} {v : Value} {ρ : Nat → Nat} {m : Nat → Nat → Bool}
theorem no_order (hG : TzOk w) (h : Bo w W b0 b1 c0 N v ρ m m) : Calls Tryd.prog 27 #[.pointer none] W fun e w' => ∃ a cap, e = .returned (.tuple #[.slice a 0 cap, .bool true]) ∧ Bo w w' b0 b1 c0 N v ρ m m := by
  refine (order_ret (relP_none W) (hG.below h.below)).mono ?_
  rintro e w' ⟨u, he, ho⟩
  obtain ⟨hrow, hb⟩ := ho
  obtain ⟨a, cap, hu⟩ := own_form (show w'.ownsRow W.heap.size 3 1 u 0 [] from hrow)
  subst hu
  exact ⟨a, cap, he, h.then hb⟩
theorem no_len (h : Bo w W b0 b1 c0 N v ρ m m) : Calls Tryd.prog 10 #[.pointer none] W fun e w' => e = .returned (.int .i64 0) ∧ Bo w w' b0 b1 c0 N v ρ m m := by
  refine (len_ret (relV_none W)).mono ?_
  rintro e w' ⟨he, rfl⟩
  exact ⟨he, h⟩
theorem no_add (h : Bo w W b0 b1 c0 N v ρ m m) : Calls Tryd.prog 30 #[.pointer none, .int .i64 0, .int .i64 0] W fun e w' => e = .returned (.bool false) ∧ Bo w w' b0 b1 c0 N v ρ m m := by
  refine (addNo_ret (relV_none W) 0 0 (by decide)).mono ?_
  rintro e w' ⟨he, rfl⟩
  exact ⟨he, h⟩
theorem no_has (h : Bo w W b0 b1 c0 N v ρ m m) : Calls Tryd.prog 16 #[.pointer none, .int .i64 0, .int .i64 0] W fun e w' => e = .returned (.bool false) ∧ Bo w w' b0 b1 c0 N v ρ m m := by
  refine (has_ret (relV_none W) 0 0).mono ?_
  rintro e w' ⟨he, rfl⟩
  exact ⟨he, h⟩
theorem no_pairs (hG : TzOk w) (h : Bo w W b0 b1 c0 N v ρ m m) : Calls Tryd.prog 14 #[.pointer none] W fun e w' => ∃ a cap, e = .returned (.slice a 0 cap) ∧ Bo w w' b0 b1 c0 N v ρ m m := by
  refine (pairs_ret none 0 0 0 noP W (relP_none W) (hG.below h.below)).mono ?_
  rintro e w' ⟨u, he, hrow, hb⟩
  obtain ⟨a, cap, hu⟩ := own_form hrow
  exact ⟨a, cap, he.trans (congrArg Ending.returned hu), h.then hb⟩
theorem no_acyclic (hG : TzOk w) (h : Bo w W b0 b1 c0 N v ρ m m) : Calls Tryd.prog 25 #[.pointer none] W fun e w' => e = .returned (.bool true) ∧ Bo w w' b0 b1 c0 N v ρ m m := by
  refine (acyclic_ret (relP_none W) (hG.below h.below)).mono ?_
  rintro e w' ⟨he, hb⟩
  exact ⟨he, h.then hb⟩
theorem bo_awake (hG : TzOk w) (h : Bo w W b0 b1 c0 N v ρ m m) : Calls Tryd.prog 11 #[] W fun e w' => e = .returned (.bool true) ∧ Bo w w' b0 b1 c0 N v ρ m m := by
  refine (awake_ret W (hG.below h.below)).mono ?_
  rintro e w' ⟨he, hb⟩
  exact ⟨he, h.then hb⟩
theorem incJ_none (n k : Nat) (m : Nat → Nat → Bool) : incJ n m noP k = m := by funext a b; simp [incJ, noP]
theorem afL_noP (n : Nat) (l : List (Nat × Nat)) : afL n noP l = noP := by funext a b; simp [afL, noP]
theorem prs_noP (n : Nat) : prs n noP = [] := by
  unfold prs els noP
  simp
theorem al_below (W : World) (o : Obj) : Below W.heap.size W (W.alloc o) := Fr.to_below ((Fr.refl [] W).alloc o)
theorem bo_union (h : Bo w W b0 b1 c0 N v ρ m m) : Calls Tryd.prog 20 #[.pointer (some ⟨b0, 0, none⟩), .slice (some ⟨W.heap.size, 0, none⟩) 1 1] (W.alloc (.cells #[.pointer none] 25)) fun e w' => ∃ d0 d1, e = .returned (.pointer (some ⟨d0, 0, none⟩)) ∧ RelC w' d0 d1 N m ∧ Bo w w' b0 b1 c0 N v ρ m m := by
  have h2 := h.then (al_below W (.cells #[.pointer none] 25))
  refine (union1_ret (p := some ⟨b0, 0, none⟩) (q := none) (.inr ⟨rfl, h2.a⟩) (relP_none _) (Hb.new W #[.pointer none] 25 (one_at _))).mono ?_
  rintro e w' ⟨d0, d1, he, hr, _, _, hb⟩
  rw [incJ_none] at hr
  exact ⟨d0, d1, he, hr, h2.then hb⟩
theorem no_union (h : Bo w W b0 b1 c0 N v ρ m m) : Calls Tryd.prog 20 #[.pointer none, .slice (some ⟨W.heap.size, 0, none⟩) 1 1] (W.alloc (.cells #[.pointer (some ⟨b0, 0, none⟩)] 25)) fun e w' => ∃ d0 d1 k, e = .returned (.pointer (some ⟨d0, 0, none⟩)) ∧ RelC w' d0 d1 0 k ∧ Bo w w' b0 b1 c0 N v ρ m m := by
  have h2 := h.then (al_below W (.cells #[.pointer (some ⟨b0, 0, none⟩)] 25))
  refine (union1_ret (p := none) (q := some ⟨b0, 0, none⟩) (relP_none _) (.inr ⟨rfl, h2.a⟩) (Hb.new W #[.pointer (some ⟨b0, 0, none⟩)] 25 (one_at _))).mono ?_
  rintro e w' ⟨d0, d1, he, hr, _, _, hb⟩
  exact ⟨d0, d1, _, he, hr, h2.then hb⟩
theorem bo_after (hG : TzOk w) (h : Bo w W b0 b1 c0 N v ρ m m) : Calls Tryd.prog 22 #[.pointer (some ⟨b0, 0, none⟩), .pointer none] W fun e w' => ∃ d0 d1, e = .returned (.pointer (some ⟨d0, 0, none⟩)) ∧ RelC w' d0 d1 N noP ∧ Bo w w' b0 b1 c0 N v ρ m m := by
  refine (after_ret (p := some ⟨b0, 0, none⟩) (q := none) (.inr ⟨rfl, h.a⟩) (relP_none _) (hG.below h.below)).mono ?_
  rintro e w' ⟨d0, d1, he, hr, _, _, hb⟩
  rw [afL_noP] at hr
  exact ⟨d0, d1, he, hr, h.then hb⟩
theorem jp_pairsOf (hG : TzOk w) {d0 d1 n : Nat} {k : Nat → Nat → Bool} (hr : RelC W d0 d1 n k) (h : Bo w W b0 b1 c0 N v ρ m m) (he : prs n k = prs N m) :
    Calls Tryd.prog 14 #[.pointer (some ⟨d0, 0, none⟩)] W fun e w' => ∃ u, e = .returned u ∧ Jp w w' b0 b1 c0 N v ρ m (some u) none := by
  refine (pairs_ret (some ⟨d0, 0, none⟩) d0 d1 n k W (.inr ⟨rfl, hr⟩) (hG.below h.below)).mono ?_
  rintro e w' ⟨u, hu, hrow, hb⟩
  rw [he] at hrow
  exact ⟨u, hu, h.then hb, fun u' hu => by cases hu; exact ⟨_, hrow⟩, RowO.none _ _⟩
theorem bo_nopairs (hG : TzOk w) {d0 d1 n : Nat} {k : Nat → Nat → Bool} (hr : RelC W d0 d1 n k) (h : Bo w W b0 b1 c0 N v ρ m m) (he : prs n k = []) :
    Calls Tryd.prog 14 #[.pointer (some ⟨d0, 0, none⟩)] W fun e w' => ∃ a cap, e = .returned (.slice a 0 cap) ∧ Bo w w' b0 b1 c0 N v ρ m m := by
  refine (pairs_ret (some ⟨d0, 0, none⟩) d0 d1 n k W (.inr ⟨rfl, hr⟩) (hG.below h.below)).mono ?_
  rintro e w' ⟨u, hu, hrow, hb⟩
  rw [he] at hrow
  obtain ⟨a, cap, hv⟩ := own_form hrow
  exact ⟨a, cap, hu.trans (congrArg Ending.returned hv), h.then hb⟩
end
set_option maxRecDepth 100000 in
set_option maxHeartbeats 8000000 in
theorem relNobody_few (a : Option Addr) (len cap : Nat) (p q : Nat → Int) (w : World) (hG : TzOk w) (hP : PIn w a len cap p q) (hf : (decide ((0 : Int) ≤ 80) && decide (len ≤ 300)) = true) : Calls Tryd.prog 7 #[.slice a len cap] w (Holds w) := by
  have HF := hid (fun w => few_ret 0 a len cap (by have := hP.1; have := hP.2.1; unfold maxLen at this; omega) w)
  rw [hf] at HF
  have HB := hid (both_ret 9 (by decide) _ a len cap p q hP)
  clear hP hf
  go_enter Tryd.func7, Tryd.ntmps7
  go_wp2_with (go_at_call 8; refine (HF.out _).mono ?_; clear HF; rintro e' w2 ⟨rfl, rfl⟩)
  go_wp2_with (go_at_call 12; refine HB.out.mono ?_; clear HB; rintro e' w3 ⟨b0, b1, c0, v, ρ, m, rfl, hbo⟩; refine Hid.out ?_)
  obtain ⟨N, hN⟩ : ∃ N, clN 9 = N := ⟨_, rfl⟩
  rw [hN] at hbo
  have H1 := hid (fun (W : World) (h : Bo w2 W b0 b1 c0 N v ρ m m) => no_order hG h)
  have H2 := hid (fun (W : World) (h : Bo w2 W b0 b1 c0 N v ρ m m) => bo_awake hG h)
  have H3 := hid (fun (W : World) (h : Bo w2 W b0 b1 c0 N v ρ m m) => no_len h)
  have H4 := hid (fun (W : World) (h : Bo w2 W b0 b1 c0 N v ρ m m) => no_add h)
  have H5 := hid (fun (W : World) (h : Bo w2 W b0 b1 c0 N v ρ m m) => no_has h)
  have H6 := hid (fun (W : World) (h : Bo w2 W b0 b1 c0 N v ρ m m) => no_pairs hG h)
  have H7 := hid (fun (W : World) (h : Bo w2 W b0 b1 c0 N v ρ m m) => no_acyclic hG h)
  have H8 := hid (fun (W : World) (h : Bo w2 W b0 b1 c0 N v ρ m m) => bo_union h)
  have H9 := hid (fun (W : World) (d0 d1 : Nat) (h : Bo w2 W b0 b1 c0 N v ρ m m) (hr : RelC W d0 d1 N m) => jp_pairsOf hG hr h rfl)
  have H10 := hid (fun (W : World) (u : Value) (h : Jp w2 W b0 b1 c0 N v ρ m (some u) none) => jp_refPairs h)
  have H11 := hid (fun (W : World) (u u' : Value) (h : Jp w2 W b0 b1 c0 N v ρ m (some u) (some u')) => jp_same h)
  have H12 := hid (fun (W : World) (h : Bo w2 W b0 b1 c0 N v ρ m m) => bo_after hG h)
  have H13 := hid (fun (W : World) (d0 d1 : Nat) (h : Bo w2 W b0 b1 c0 N v ρ m m) (hr : RelC W d0 d1 N noP) => bo_nopairs hG hr h (prs_noP N))
  have H14 := hid (fun (W : World) (h : Bo w2 W b0 b1 c0 N v ρ m m) => no_union h)
  have H15 := hid (fun (W : World) (d0 d1 : Nat) (k : Nat → Nat → Bool) (h : Bo w2 W b0 b1 c0 N v ρ m m) (hr : RelC W d0 d1 0 k) => bo_nopairs hG hr h (show prs 0 k = [] from rfl))
  clear hN hG
  refine hid ?_
  go_wp2_with (first
    | (go_at_call 27; refine (H1.out _ (by assumption)).mono ?_; rintro e' w5 ⟨oa, ocap, rfl, hbo⟩)
    | (go_at_call 11; refine (H2.out _ (by assumption)).mono ?_; rintro e' w5 ⟨rfl, hbo⟩)
    | (go_at_call 10; refine (H3.out _ (by assumption)).mono ?_; rintro e' w5 ⟨rfl, hbo⟩)
    | (go_at_call 30; refine (H4.out _ (by assumption)).mono ?_; rintro e' w5 ⟨rfl, hbo⟩)
    | (go_at_call 16; refine (H5.out _ (by assumption)).mono ?_; rintro e' w5 ⟨rfl, hbo⟩)
    | (go_at_call 14; refine (H6.out _ (by assumption)).mono ?_; rintro e' w5 ⟨pa, pcap, rfl, hbo⟩)
    | (go_at_call 25; refine (H7.out _ (by assumption)).mono ?_; rintro e' w5 ⟨rfl, hbo⟩))
  have HX := hid (H8.out _ hbo)
  go_at_call 20
  refine HX.out.mono ?_
  clear HX
  rintro e' w6 ⟨d0, d1, rfl, hr, hbo⟩
  refine Hid.out ?_
  have HX := hid (H9.out _ _ _ hbo hr)
  refine hid ?_
  go_wp2_with (go_at_call 14; refine HX.out.mono ?_; clear HX; rintro e' w6 ⟨u, rfl, hj⟩; refine Hid.out ?_)
  have HX := hid (H10.out _ _ hj)
  refine hid ?_
  go_wp2_with (go_at_call 15; refine HX.out.mono ?_; clear HX; rintro e' w6 ⟨u', rfl, hj⟩; refine Hid.out ?_)
  have HX := hid (H11.out _ _ _ hj)
  refine hid ?_
  go_wp2_with (go_at_call 13; refine HX.out.mono ?_; clear HX; rintro e' w6 ⟨rfl, hj⟩; refine Hid.out ?_)
  have hbo := hj.bo
  have HX := hid (H12.out _ hbo)
  refine hid ?_
  go_wp2_with (go_at_call 22; refine HX.out.mono ?_; clear HX; rintro e' w6 ⟨g0, g1, rfl, hr, hbo⟩; refine Hid.out ?_)
  have HX := hid (H13.out _ _ _ hbo hr)
  refine hid ?_
  go_wp2_with (go_at_call 14; refine HX.out.mono ?_; clear HX; rintro e' w6 ⟨xa, xcap, rfl, hbo⟩; refine Hid.out ?_)
  have HX := hid (H14.out _ hbo)
  refine hid ?_
  go_wp2_with (go_at_call 20; refine HX.out.mono ?_; clear HX; rintro e' w6 ⟨k0, k1, k, rfl, hr, hbo⟩; refine Hid.out ?_)
  have HX := hid (H15.out _ _ _ _ hbo hr)
  refine hid ?_
  go_wp2_with (go_at_call 14; refine HX.out.mono ?_; clear HX; rintro e' w6 ⟨ya, ycap, rfl, hbo⟩; refine Hid.out ?_)
  refine hid ?_
  go_wp2
  go_ret
  exact ⟨rfl, hbo.below⟩
set_option maxRecDepth 100000 in
theorem relNobody_many (a : Option Addr) (len cap : Nat) (hl : len ≤ 9223372036854775807) (w : World) (hG : TzOk w) (hf : (decide ((0 : Int) ≤ 80) && decide (len ≤ 300)) = false) : Calls Tryd.prog 7 #[.slice a len cap] w (Holds w) := by
  have HF := hid (fun w => few_ret 0 a len cap hl w)
  rw [hf] at HF
  have HAw := hid (awake_ret w hG)
  clear hG hf hl
  go_enter Tryd.func7, Tryd.ntmps7
  go_wp2_with (go_at_call 8; refine (HF.out _).mono ?_; clear HF; rintro e' w2 ⟨rfl, rfl⟩)
  go_wp2_with (go_at_call 11; refine HAw.out.mono ?_; clear HAw; rintro e' w5 ⟨rfl, hb5⟩; refine Hid.out ?_)
  refine hid ?_
  go_wp2
  go_ret
  exact ⟨rfl, hb5⟩
theorem relNobody_walk (a : Option Addr) (len cap : Nat) (p q : Nat → Int) (w : World) (hG : TzOk w) (hP : PIn w a len cap p q) : Calls Tryd.prog 7 #[.slice a len cap] w (Holds w) := by
  cases hf : (decide ((0 : Int) ≤ 80) && decide (len ≤ 300))
  · exact relNobody_many a len cap (by have := hP.1; have := hP.2.1; unfold maxLen at this; omega) w hG hf
  · exact relNobody_few a len cap p q w hG hP hf
end Go.Proofs.YthmmmbfjhfocfaaDoor
