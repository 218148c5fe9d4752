/- The law RelCloses of layer 14. -/
import Derived.Test.YthmmmbfjhfocfaaDoorLawP14
import Derived.Test.YthmmmbfjhfocfaaDoorRnd14
namespace Go.Proofs.YthmmmbfjhfocfaaDoor
open Go Go.RowKit
set_option linter.unusedVariables false
set_option linter.unusedSimpArgs false

section
variable {w W : World} {b0 b1 c0 N : Nat} {v : Value} {ρ : Nat → Nat} {m : Nat → Nat → Bool}
def RowQ (W : World) (l : List (Nat × Nat)) (u : Value) : Prop := ∃ base, W.ownsRow base 23 2 u l.length (cellsP l)
theorem RowQ.below {W W' : World} {l : List (Nat × Nat)} {u : Value} (h : RowQ W l u) (hb : Below W.heap.size W W') : RowQ W' l u := h.elim fun base h1 => ⟨base, RdP.below h1 hb⟩
theorem c_closure (h : Bo w W b0 b1 c0 N v ρ m m) : Calls Tryd.prog 23 #[.pointer (some ⟨b0, 0, none⟩)] W fun e w' => ∃ d0 d1, e = .returned (.pointer (some ⟨d0, 0, none⟩)) ∧ RelC w' d0 d1 N (tcB m) ∧ Bo w w' b0 b1 c0 N v ρ m m := by
  refine (closure_ret (p := some ⟨b0, 0, none⟩) (.inr ⟨rfl, h.a⟩)).mono ?_
  rintro e w' ⟨d0, d1, he, hr, _, _, hb⟩
  rw [wsO_tc h.a.inn] at hr
  exact ⟨d0, d1, he, hr, h.then hb⟩
theorem c_pairs (hG : TzOk w) {d0 d1 : Nat} {k : Nat → Nat → Bool} (hr : RelC W d0 d1 N k) (h : Bo w W b0 b1 c0 N v ρ m m) :
    Calls Tryd.prog 14 #[.pointer (some ⟨d0, 0, none⟩)] W fun e w' => ∃ u, e = .returned u ∧ RowQ w' (prs N k) u ∧ Bo w w' b0 b1 c0 N v ρ m m := by
  refine (pairs_ret (some ⟨d0, 0, none⟩) d0 d1 N k W (.inr ⟨rfl, hr⟩) (hG.below h.below)).mono ?_
  rintro e w' ⟨u, hu, hrow, hb⟩
  exact ⟨u, hu, ⟨_, hrow⟩, h.then hb⟩
theorem c_leads (h : Bo w W b0 b1 c0 N v ρ m m) {l : List (Nat × Nat)} {u : Value} (hu : RowQ W l u) : Calls Tryd.prog 24 #[.pointer (some ⟨c0, 0, none⟩)] W fun e w' => ∃ d0 v' ρ', e = .returned (.pointer (some ⟨d0, 0, none⟩)) ∧ RfC w' d0 N v' ρ' (tcB m) ∧ RowQ w' l u ∧ Bo w w' b0 b1 c0 N v ρ m m := by
  refine (leads_ret h.b).mono ?_
  rintro e w' ⟨d0, v', ρ', he, ho, hb⟩
  exact ⟨d0, v', ρ', he, ho, hu.below hb, h.then hb⟩
theorem c_refPairs (h : Bo w W b0 b1 c0 N v ρ m m) {l : List (Nat × Nat)} {u : Value} (hu : RowQ W l u) {d0 : Nat} {v' : Value} {ρ' : Nat → Nat} {k : Nat → Nat → Bool} (ho : RfC W d0 N v' ρ' k) : Calls Tryd.prog 15 #[.pointer (some ⟨d0, 0, none⟩)] W fun e w' => ∃ u', e = .returned u' ∧ RowQ w' (prs N k) u' ∧ RowQ w' l u ∧ Bo w w' b0 b1 c0 N v ρ m m := by
  refine (refPairs_ret ho).mono ?_
  rintro e w' ⟨u', he, hrow, hb⟩
  exact ⟨u', he, ⟨_, hrow⟩, hu.below hb, h.then hb⟩
theorem c_same (h : Bo w W b0 b1 c0 N v ρ m m) {k : Nat → Nat → Bool} {u u' : Value} (hu : RowQ W (prs N k) u) (hu' : RowQ W (prs N k) u') : Calls Tryd.prog 13 #[u, u'] W fun e w' => e = .returned (.bool true) ∧ Bo w w' b0 b1 c0 N v ρ m m := by
  obtain ⟨_, h1⟩ := hu
  obtain ⟨_, h2⟩ := hu'
  refine (same_yes (prs_le N h.a.n512 k) (own_rdP h1) (own_rdP h2)).mono ?_
  rintro e w' ⟨he, j, rfl⟩
  exact ⟨he, h.then (Fr.to_below ((Fr.refl _ W).draws j))⟩
theorem c_acyclic (hG : TzOk w) (h : Bo w W b0 b1 c0 N v ρ m m) : Calls Tryd.prog 25 #[.pointer (some ⟨b0, 0, none⟩)] W fun e w' => e = .returned (.bool (!rnB m)) ∧ Bo w w' b0 b1 c0 N v ρ m m := by
  refine (acyclic_ret (p := some ⟨b0, 0, none⟩) (.inr ⟨rfl, h.a⟩) (hG.below h.below)).mono ?_
  rintro e w' ⟨he, hb⟩
  rw [acyc_rn h.a.n512 h.a.inn] at he
  exact ⟨he, h.then hb⟩
theorem c_rounds (h : Bo w W b0 b1 c0 N v ρ m m) : Calls Tryd.prog 26 #[.pointer (some ⟨c0, 0, none⟩)] W fun e w' => e = .returned (.bool (rnB m)) ∧ Bo w w' b0 b1 c0 N v ρ m m := by
  refine (rounds_ret h.b).mono ?_
  rintro e w' ⟨he, hb⟩
  exact ⟨he, h.then hb⟩
end
set_option maxRecDepth 100000 in
set_option maxHeartbeats 4000000 in
theorem relCloses_few (n : Int) (a : Option Addr) (len cap : Nat) (p q : Nat → Int) (w : World) (hG : TzOk w) (hP : PIn w a len cap p q) (hf : (decide (n ≤ 80) && decide (len ≤ 300)) = true) : Calls Tryd.prog 5 #[.int .i64 n, .slice a len cap] w (Holds w) := by
  have HF := hid (fun w => few_ret n a len cap (by have := hP.1; have := hP.2.1; unfold maxLen at this; omega) w)
  rw [hf] at HF
  have hn := few_of hf
  have HB := hid (both_ret n hn w a len cap p q hP)
  clear hP hf hn
  go_enter Tryd.func5, Tryd.ntmps5
  go_wp2_with (go_at_call 8; refine (HF.out _).mono ?_; clear HF; rintro e' w2 ⟨rfl, rfl⟩)
  go_wp2_with (go_at_call 12; refine HB.out.mono ?_; clear HB; rintro e' w3 ⟨b0, b1, c0, v, ρ, m, rfl, hbo⟩; refine Hid.out ?_)
  obtain ⟨N, hN⟩ : ∃ N, clN n = N := ⟨_, rfl⟩
  rw [hN] at hbo
  have HX := hid (awake_ret w3 (hG.below hbo.below))
  have HBo := hid hbo
  have HG := hid hG
  clear hbo hN hG
  refine hid ?_
  go_wp2_with (go_at_call 11; refine HX.out.mono ?_; clear HX; rintro e' w4 ⟨rfl, hb4⟩; refine Hid.out ?_)
  have hbo := HBo.out.then hb4
  clear hb4 HBo
  have HX := hid (c_closure hbo)
  refine hid ?_
  go_wp2_with (go_at_call 23; refine HX.out.mono ?_; clear HX; rintro e' w9 ⟨d0, d1, rfl, hr, hbo⟩; refine Hid.out ?_)
  have HX := hid (c_pairs HG.out hr hbo)
  refine hid ?_
  go_wp2_with (go_at_call 14; refine HX.out.mono ?_; clear HX; rintro e' w9 ⟨u, rfl, hu, hbo⟩; refine Hid.out ?_)
  have HX := hid (c_leads hbo hu)
  refine hid ?_
  go_wp2_with (go_at_call 24; refine HX.out.mono ?_; clear HX; rintro e' w9 ⟨g0, v', ρ', rfl, ho, hu, hbo⟩; refine Hid.out ?_)
  have HX := hid (c_refPairs hbo hu ho)
  refine hid ?_
  go_wp2_with (go_at_call 15; refine HX.out.mono ?_; clear HX; rintro e' w9 ⟨u', rfl, hu', hu, hbo⟩; refine Hid.out ?_)
  have HX := hid (c_same hbo hu hu')
  refine hid ?_
  go_wp2_with (go_at_call 13; refine HX.out.mono ?_; clear HX; rintro e' w9 ⟨rfl, hbo⟩; refine Hid.out ?_)
  have HX := hid (c_acyclic HG.out hbo)
  refine hid ?_
  go_wp2_with (go_at_call 25; refine HX.out.mono ?_; clear HX; rintro e' w9 ⟨rfl, hbo⟩; refine Hid.out ?_)
  have HX := hid (c_rounds hbo)
  refine hid ?_
  go_wp2_with (go_at_call 26; refine HX.out.mono ?_; clear HX; rintro e' w9 ⟨rfl, hbo⟩; refine Hid.out ?_)
  have HE := hid hbo.below
  clear hbo
  refine hid ?_
  cases hrn : rnB m
  · go_wp2
    go_ret
    exact ⟨by simp, HE.out⟩
  · go_wp2
    go_ret
    exact ⟨by simp, HE.out⟩
set_option maxRecDepth 100000 in
theorem relCloses_many (n : Int) (a : Option Addr) (len cap : Nat) (hl : len ≤ 9223372036854775807) (w : World) (hG : TzOk w) (hf : (decide (n ≤ 80) && decide (len ≤ 300)) = false) : Calls Tryd.prog 5 #[.int .i64 n, .slice a len cap] w (Holds w) := by
  have HF := hid (fun w => few_ret n a len cap hl w)
  rw [hf] at HF
  have HAw := hid (awake_ret w hG)
  clear hG hf hl
  go_enter Tryd.func5, Tryd.ntmps5
  go_wp2_with (go_at_call 8; refine (HF.out _).mono ?_; clear HF; rintro e' w2 ⟨rfl, rfl⟩)
  go_wp2_with (go_at_call 11; refine HAw.out.mono ?_; clear HAw; rintro e' w5 ⟨rfl, hb5⟩; refine Hid.out ?_)
  refine hid ?_
  go_wp2
  go_ret
  exact ⟨rfl, hb5⟩
theorem relCloses_walk (n : Int) (a : Option Addr) (len cap : Nat) (p q : Nat → Int) (w : World) (hG : TzOk w) (wn : (Lit.int .i64 n).wf = true) (hP : PIn w a len cap p q) : Calls Tryd.prog 5 #[.int .i64 n, .slice a len cap] w (Holds w) := by
  cases hf : (decide (n ≤ 80) && decide (len ≤ 300))
  · exact relCloses_many n a len cap (by have := hP.1; have := hP.2.1; unfold maxLen at this; omega) w hG hf
  · exact relCloses_few n a len cap p q w hG hP hf
end Go.Proofs.YthmmmbfjhfocfaaDoor
