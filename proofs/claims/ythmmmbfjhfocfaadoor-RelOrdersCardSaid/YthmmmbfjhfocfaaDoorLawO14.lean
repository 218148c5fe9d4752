/- The law RelOrders of layer 14. -/
import Derived.Test.YthmmmbfjhfocfaaDoorLawC14
import Derived.Test.YthmmmbfjhfocfaaDoorROr14
import Derived.Test.YthmmmbfjhfocfaaDoorInts14
namespace Go.Proofs.YthmmmbfjhfocfaaDoor
open Go Go.RowKit
set_option linter.unusedVariables false
set_option linter.unusedSimpArgs false

theorem own_rdI {w : World} {base : Nat} {v : Value} {l : List Nat} (h : w.ownsRow base 3 1 v l.length (intsV l)) : RdI .i64 w w.heap.size v (l.map fun (x : Nat) => (x : Int)) := by
  rcases h.2 with ⟨rfl, h0⟩ | ⟨g, cap, cur, rfl, _, hg, _, _, _, ht⟩
  · exact ⟨none, 0, by rw [List.length_map, h0], fun hp => by rw [List.length_map] at hp; omega⟩
  · refine ⟨_, cap, by rw [List.length_map], fun _ => ⟨g, 0, rfl, (Array.getElem?_eq_some_iff.1 hg).1, fun i hi => ?_⟩⟩
    rw [List.length_map] at hi
    have h1 : (intsV l)[i]? = some (.int .i64 (l[i] : Nat)) := by unfold intsV; rw [List.getElem?_map, List.getElem?_eq_getElem hi]; rfl
    rw [← ht, List.getElem?_take_of_lt (by omega)] at h1
    have h2 : (l.map fun (x : Nat) => (x : Int)).getD i 0 = (l[i] : Nat) := by simp [List.getD, hi]
    rw [h2, Nat.zero_add]
    simpa [World.cell?, hg] using h1
section
variable {w W : World} {b0 b1 c0 N : Nat} {v : Value} {ρ : Nat → Nat} {m : Nat → Nat → Bool}
def RowI (W : World) (l : List Nat) (u : Value) : Prop := ∃ base, W.ownsRow base 3 1 u l.length (intsV l)
theorem RowI.below {W W' : World} {l : List Nat} {u : Value} (h : RowI W l u) (hb : Below W.heap.size W W') : RowI W' l u := h.elim fun base h1 => ⟨base, Go.Proofs.YthmmmbfjhfocfaaDoor.own_keep h1 fun g _ hg => hb.block g hg⟩
theorem o_yes (hG : TzOk w) (h : Bo w W b0 b1 c0 N v ρ m m) (hr : rnB m = false) : Calls Tryd.prog 27 #[.pointer (some ⟨b0, 0, none⟩)] W fun e w' => ∃ u, e = .returned (.tuple #[u, .bool true]) ∧ RowI w' (gr N m N) u ∧ Bo w w' b0 b1 c0 N v ρ m m := by
  have hl : (gr N m N).length = N := by
    have := acyc_rn (n := N) (m := m) h.a.n512 h.a.inn
    rw [hr] at this
    simpa using this
  refine (order_ret (p := some ⟨b0, 0, none⟩) (.inr ⟨rfl, h.a⟩) (hG.below h.below)).mono ?_
  rintro e w' ⟨u, he, hrow, hb⟩
  rw [if_pos hl, if_pos hl] at hrow
  exact ⟨u, by rw [he]; simp [hl], ⟨_, hrow⟩, h.then hb⟩
theorem o_no (hG : TzOk w) (h : Bo w W b0 b1 c0 N v ρ m m) (hr : rnB m = true) : Calls Tryd.prog 27 #[.pointer (some ⟨b0, 0, none⟩)] W fun e w' => ∃ a cap, e = .returned (.tuple #[.slice a 0 cap, .bool false]) ∧ Bo w w' b0 b1 c0 N v ρ m m := by
  have hl : ¬ (gr N m N).length = N := by
    have := acyc_rn (n := N) (m := m) h.a.n512 h.a.inn
    rw [hr] at this
    simpa using this
  refine (order_ret (p := some ⟨b0, 0, none⟩) (.inr ⟨rfl, h.a⟩) (hG.below h.below)).mono ?_
  rintro e w' ⟨u, he, hrow, hb⟩
  rw [if_neg hl, if_neg hl] at hrow
  obtain ⟨a, cap, rfl⟩ := own_form hrow
  exact ⟨a, cap, by rw [he]; simp [hl], h.then hb⟩
theorem o_roundsI (h : Bo w W b0 b1 c0 N v ρ m m) {l : List Nat} {u : Value} (hu : RowI W l u) : Calls Tryd.prog 26 #[.pointer (some ⟨c0, 0, none⟩)] W fun e w' => e = .returned (.bool (rnB m)) ∧ RowI w' l u ∧ Bo w w' b0 b1 c0 N v ρ m m := by
  refine (rounds_ret h.b).mono ?_
  rintro e w' ⟨he, hb⟩
  exact ⟨he, hu.below hb, h.then hb⟩
theorem o_ref (h : Bo w W b0 b1 c0 N v ρ m m) (hr : rnB m = false) {l : List Nat} {u : Value} (hu : RowI W l u) : Calls Tryd.prog 29 #[.pointer (some ⟨c0, 0, none⟩)] W fun e w' => ∃ u', e = .returned u' ∧ RowI w' (gr N m N) u' ∧ RowI w' l u ∧ Bo w w' b0 b1 c0 N v ρ m m := by
  refine (refOrder_ret h.b fun x hx => by rw [rnB_iff.2 ⟨x, hx⟩] at hr; cases hr).mono ?_
  rintro e w' ⟨u', he, hrow, hb⟩
  exact ⟨u', he, ⟨_, hrow⟩, hu.below hb, h.then hb⟩
theorem o_ints (h : Bo w W b0 b1 c0 N v ρ m m) {l : List Nat} (hl : l.length ≤ 512) {u u' : Value} (hu : RowI W l u) (hu' : RowI W l u') : Calls Tryd.prog 28 #[u, u'] W fun e w' => e = .returned (.bool true) ∧ Bo w w' b0 b1 c0 N v ρ m m := by
  obtain ⟨_, h1⟩ := hu
  obtain ⟨_, h2⟩ := hu'
  refine (refInts_yes (by rw [List.length_map]; omega) (own_rdI h1) (own_rdI h2)).mono ?_
  rintro e w' ⟨he, j, rfl⟩
  exact ⟨he, h.then (Fr.to_below ((Fr.refl _ W).draws j))⟩
end
set_option maxRecDepth 100000 in
set_option maxHeartbeats 4000000 in
theorem relOrders_few (n : Int) (a : Option Addr) (len cap : Nat) (p q : Nat → Int) (w : World) (hG : TzOk w) (hP : PIn w a len cap p q) (hf : (decide (n ≤ 80) && decide (len ≤ 300)) = true) : Calls Tryd.prog 6 #[.int .i64 n, .slice a len cap] w (Holds w) := by
  have HF := hid (fun w => few_ret n a len cap (by have := hP.1; have := hP.2.1; unfold maxLen at this; omega) w)
  rw [hf] at HF
  have hn := few_of hf
  have HB := hid (both_ret n hn w a len cap p q hP)
  clear hP hf hn
  go_enter Tryd.func6, Tryd.ntmps6
  go_wp2_with (go_at_call 8; refine (HF.out _).mono ?_; clear HF; rintro e' w2 ⟨rfl, rfl⟩)
  go_wp2_with (go_at_call 12; refine HB.out.mono ?_; clear HB; rintro e' w3 ⟨b0, b1, c0, v, ρ, m, rfl, hbo⟩; refine Hid.out ?_)
  obtain ⟨N, hN⟩ : ∃ N, clN n = N := ⟨_, rfl⟩
  rw [hN] at hbo
  have HX := hid (awake_ret w3 (hG.below hbo.below))
  have HBo := hid hbo
  have HG := hid hG
  clear hbo hN hG
  refine hid ?_
  go_wp2_with (go_at_call 11; refine HX.out.mono ?_; clear HX; rintro e' w4 ⟨rfl, hb4⟩; refine Hid.out ?_)
  have hbo := HBo.out.then hb4
  clear hb4 HBo
  cases hrn : rnB m
  · have HRN := hid hrn
    clear hrn
    have HX := hid (o_yes HG.out hbo HRN.out)
    refine hid ?_
    go_wp2_with (go_at_call 27; refine HX.out.mono ?_; clear HX; rintro e' w9 ⟨u, rfl, hu, hbo⟩; refine Hid.out ?_)
    have HY := o_roundsI hbo hu
    rw [HRN.out] at HY
    have HX := hid HY
    clear HY
    refine hid ?_
    go_wp2_with (go_at_call 26; refine HX.out.mono ?_; clear HX; rintro e' w9 ⟨rfl, hu, hbo⟩; refine Hid.out ?_)
    have HX := hid (o_ref hbo HRN.out hu)
    refine hid ?_
    go_wp2_with (go_at_call 29; refine HX.out.mono ?_; clear HX; rintro e' w9 ⟨u', rfl, hu', hu, hbo⟩; refine Hid.out ?_)
    have HX := hid (o_ints hbo (Nat.le_trans (gr_gd N m N).len hbo.a.n512) hu hu')
    refine hid ?_
    go_wp2_with (go_at_call 28; refine HX.out.mono ?_; clear HX; rintro e' w9 ⟨rfl, hbo⟩; refine Hid.out ?_)
    have HE := hid hbo.below
    clear hbo
    refine hid ?_
    go_wp2
    go_ret
    exact ⟨rfl, HE.out⟩
  · have HRN := hid hrn
    clear hrn
    have HX := hid (o_no HG.out hbo HRN.out)
    refine hid ?_
    go_wp2_with (go_at_call 27; refine HX.out.mono ?_; clear HX; rintro e' w9 ⟨oa, ocap, rfl, hbo⟩; refine Hid.out ?_)
    have HY := c_rounds hbo
    rw [HRN.out] at HY
    have HX := hid HY
    clear HY
    refine hid ?_
    go_wp2_with (go_at_call 26; refine HX.out.mono ?_; clear HX; rintro e' w9 ⟨rfl, hbo⟩; refine Hid.out ?_)
    have HE := hid hbo.below
    clear hbo
    refine hid ?_
    go_wp2
    go_ret
    exact ⟨rfl, HE.out⟩
set_option maxRecDepth 100000 in
theorem relOrders_many (n : Int) (a : Option Addr) (len cap : Nat) (hl : len ≤ 9223372036854775807) (w : World) (hG : TzOk w) (hf : (decide (n ≤ 80) && decide (len ≤ 300)) = false) : Calls Tryd.prog 6 #[.int .i64 n, .slice a len cap] w (Holds w) := by
  have HF := hid (fun w => few_ret n a len cap hl w)
  rw [hf] at HF
  have HAw := hid (awake_ret w hG)
  clear hG hf hl
  go_enter Tryd.func6, Tryd.ntmps6
  go_wp2_with (go_at_call 8; refine (HF.out _).mono ?_; clear HF; rintro e' w2 ⟨rfl, rfl⟩)
  go_wp2_with (go_at_call 11; refine HAw.out.mono ?_; clear HAw; rintro e' w5 ⟨rfl, hb5⟩; refine Hid.out ?_)
  refine hid ?_
  go_wp2
  go_ret
  exact ⟨rfl, hb5⟩
theorem relOrders_walk (n : Int) (a : Option Addr) (len cap : Nat) (p q : Nat → Int) (w : World) (hG : TzOk w) (wn : (Lit.int .i64 n).wf = true) (hP : PIn w a len cap p q) : Calls Tryd.prog 6 #[.int .i64 n, .slice a len cap] w (Holds w) := by
  cases hf : (decide (n ≤ 80) && decide (len ≤ 300))
  · exact relOrders_many n a len cap (by have := hP.1; have := hP.2.1; unfold maxLen at this; omega) w hG hf
  · exact relOrders_few n a len cap p q w hG hP hf
end Go.Proofs.YthmmmbfjhfocfaaDoor
