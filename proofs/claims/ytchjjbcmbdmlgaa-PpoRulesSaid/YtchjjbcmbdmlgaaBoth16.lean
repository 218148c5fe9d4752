/- Layer 16: the reference's union of two rising lists is one. -/
import Derived.Test.YtchjjbcmbdmlgaaK06
import Derived.Deep.Cut
set_option linter.unusedVariables false
set_option linter.unusedSimpArgs false
namespace Go.Proofs.Ytchjjbcmbdmlgaa
open Go Go.RowKit
theorem intInfoB : (Try.prog.info? 3).map (fun i => (i.zero, i.size, i.bytes)) = some (some (.int .i64 0), 1, 8) := by kernel_rfl
structure BtJ (w wr : World) (N m : Nat) (v : Value) (R : Nat → Int) : Prop where
  own : wr.ownsRow w.heap.size 3 1 v m (zL R m)
  up : Rise N m R
  bel : Below w.heap.size w wr
theorem BtJ.push {w wr w' : World} {N m : Nat} {v v' : Value} {R : Nat → Int} {x : Int} (h : BtJ w wr N m v R) (hx : 0 ≤ x ∧ x < N) (hlt : ∀ j, j < m → R j < x) (ho : w'.ownsRow w.heap.size 3 1 v' (m + 1) (zL R m ++ [.int .i64 x])) (hb : Below w.heap.size w w') : BtJ w w' N (m + 1) v' (updF R m x) := by
  refine ⟨by rw [← zL_snoc]; exact ho, ⟨fun i j hij hj => ?_, fun i hi => ?_⟩, hb⟩
  · by_cases e : j = m
    · subst e; rw [updF_same, updF_other _ _ (by omega)]; exact hlt i hij
    · rw [updF_other _ _ (by omega), updF_other _ _ (by omega)]; exact h.up.up i j hij (by omega)
  · by_cases e : i = m
    · subst e; rw [updF_same]; exact hx
    · rw [updF_other _ _ e]; exact h.up.inn i (by omega)
theorem BtJ.last {w wr : World} {N m : Nat} {v : Value} {R : Nat → Int} {x : Int} (h : BtJ w wr N m v R) (hle : ∀ j, j < m → R j ≤ x) (hm : 0 < m) (hne : R (m - 1) ≠ x) : ∀ j, j < m → R j < x := fun j hj => by
  have h1 := hle (m - 1) (by omega)
  by_cases e : j = m - 1
  · subst e; omega
  · have := h.up.up j (m - 1) (by omega) (by omega); omega
set_option maxHeartbeats 4000000 in
set_option maxRecDepth 100000 in
theorem both_w (va vb : Value) (M : List Nat) (N : Nat) (hN : N ≤ 100000) (w : World) (ha : LsW w M N va) (hb : LsW w M N vb) : Calls Try.prog 69 #[va, vb] w (fun e w' => ∃ v, e = .returned v ∧ LsO w.heap.size w' N v ∧ Below w.heap.size w w') := by
  obtain ⟨i0, hi, hz0, hz1, hz2⟩ := info_parts intInfoB
  obtain ⟨qa, na, ca, A, rfl, hrA, hcA⟩ := ha
  obtain ⟨qb, nb, cb, B, rfl, hrB, hcB⟩ := hb
  have hla := hrA.len
  have hlb := hrB.len
  have HCA := hid hcA
  have HCB := hid hcB
  have HRA := hid hrA
  have HRB := hid hrB
  clear hcA hcB hrA hrB
  go_enter Try.func69, Try.ntmps69
  go_wp2
  go_loopw [5, 6, 7] (fun v x y wr => ∃ (i k m : Nat) (R : Nat → Int) (u : Value), i ≤ na ∧ k ≤ nb ∧ v = u ∧ x = .int .i64 i ∧ y = .int .i64 k ∧ BtJ w wr N m u R ∧ (∀ j, j < m → (i < na → R j ≤ A i) ∧ (k < nb → R j ≤ B k))) (fun _ x y _ => (na - (intOf x).toNat) + (nb - (intOf y).toNat))
  case atStart => exact ⟨0, 0, 0, fun _ => 0, _, Nat.zero_le _, Nat.zero_le _, rfl, rfl, rfl, ⟨World.ownsRow_nil _ _ _ _, Rise.nil _ _, Below.refl _ _⟩, fun j hj => by omega⟩
  case round =>
    obtain ⟨i, k, m, R, v, hi', hk', hv, rfl, rfl, hJ, hle⟩ := hrel
    have HJ := hid hJ
    have HLe := hid hle
    clear hJ hle
    have hm := HJ.out.up.len
    obtain ⟨q, c, rfl, hq⟩ : ∃ q c, v = .slice q m c ∧ (0 < m → ∃ g, q = some ⟨g, 0, none⟩ ∧ wr.cell? ⟨g, m - 1, none⟩ = some (.int .i64 (R (m - 1)))) := by
      have ho := HJ.out.own
      rcases ho.2 with ⟨rfl, h0⟩ | ⟨g, cap, cur, rfl, _⟩
      · exact ⟨none, 0, by rw [h0], fun h => by omega⟩
      · exact ⟨_, cap, rfl, fun h => ⟨g, rfl, by rw [World.ownsRow.cellAt ho (m - 1) (by omega), zL_get _ (by omega)]⟩⟩
    subst hv
    have ways : (i < na ∧ (k < nb → A i ≤ B k)) ∨ (k < nb ∧ (i < na → B k < A i)) ∨ (¬ i < na ∧ ¬ k < nb) := by
      by_cases h1 : i < na
      · by_cases h2 : k < nb
        · by_cases h3 : A i ≤ B k
          · exact .inl ⟨h1, fun _ => h3⟩
          · exact .inr (.inl ⟨h2, fun _ => by omega⟩)
        · exact .inl ⟨h1, fun h => absurd h h2⟩
      · by_cases h2 : k < nb
        · exact .inr (.inl ⟨h2, fun h => absurd h h1⟩)
        · exact .inr (.inr ⟨h1, h2⟩)
    rcases ways with ⟨h1, h3⟩ | ⟨h2, h3⟩ | ⟨h1, h2⟩
    · obtain ⟨ba, oa, rfl, hba, _, hca⟩ := HCA.out (by omega)
      have e1 : wr.cell? ⟨ba, oa + i, none⟩ = some (.int .i64 (A i)) := (HJ.out.bel.cell (p := ⟨ba, _, none⟩) hba).trans (hca i h1)
      clear hca
      have hx : Hid ((0 ≤ A i ∧ A i < N) ∧ (∀ j, j < m → R j ≤ A i) ∧ (i + 1 < na → A i ≤ A (i + 1)) ∧ (k < nb → A i ≤ B k)) := hid ⟨HRA.out.inn i h1, fun j hj => (HLe.out j hj).1 h1, fun h => by have := HRA.out.up i (i + 1) (by omega) h; omega, h3⟩
      by_cases h2 : k < nb
      · obtain ⟨bb, ob, rfl, hbb, _, hcb⟩ := HCB.out (by omega)
        have e2 : wr.cell? ⟨bb, ob + k, none⟩ = some (.int .i64 (B k)) := (HJ.out.bel.cell (p := ⟨bb, _, none⟩) hbb).trans (hcb k h2)
        have h4 := h3 h2
        clear hcb h3
        go_wp2
        go_quiet (fail)
        go_upto_region 10 with (fail)
        clear e2 h4
        have hX := hid hx.out.1
        have hR := hid hx.out.2.1
        have hA := hid hx.out.2.2
        clear hx
        have HJ2 : Hid (BtJ w (wr.drewN nq) N m (.slice q m c) R) := hid ⟨HJ.out.own, HJ.out.up, below_draws HJ.out.bel _⟩
        have hq2 : 0 < m → ∃ g, q = some ⟨g, 0, none⟩ ∧ (wr.drewN nq).cell? ⟨g, m - 1, none⟩ = some (.int .i64 (R (m - 1))) := hq
        clear hq HJ e1
        generalize wr.drewN nq = W at HJ2 hq2 ⊢
        generalize A i = x at hX hR hA ⊢
        rcases Nat.eq_zero_or_pos m with hm0 | hm0
        · subst hm0
          have HLt : Hid (∀ j, j < 0 → R j < x) := hid fun j hj => by omega
          clear hq2
          go_wp2_with (at_builtin; refine wpList_append_own _ rfl _ _ 23 rfl w.heap.size 3 i0 (.int .i64 0) 1 8 Try.underlying23 hi hz0 hz1 hz2 rfl (by decide) _ (0) (zL R (0)) rfl (HJ2.out.own.alloc _) ⟨W.heap.size, 0, none⟩ 1 1 [.int .i64 x] rfl rfl (cell_one_new _ _ _) (by simp [Value.oneCell']) (by unfold maxLen; omega) (by omega) (by simp; have := HJ2.out.bel.size; omega) ?_; intro v2 W2 hown2 hgrow _; have HJ3 := hid (HJ2.out.push hX.out HLt.out hown2 ((HJ2.out.bel.alloc HJ2.out.bel.size _).grown hgrow (by simp; have := HJ2.out.bel.size; omega) (fun b e => (HJ2.out.own.lt b e).1))); clear hown2 hgrow)
          go_roundw
          case rel => exact ⟨i + 1, k, 1, updF R 0 x, _, by omega, by omega, rfl, by go_num, by go_num, HJ3.out, fun j hj => by
            obtain rfl : j = 0 := by omega
            rw [updF_same]
            exact hA.out⟩
          case measure => simp [intOf]; omega
        · obtain ⟨m', rfl⟩ : ∃ m', m = m' + 1 := ⟨m - 1, by omega⟩
          obtain ⟨g, rfl, hg⟩ := hq2 hm0
          rw [Nat.add_sub_cancel] at hg
          clear hq2
          by_cases hne : R m' = x
          · go_wp2
            go_roundw
            case rel => exact ⟨i + 1, k, m' + 1, R, _, by omega, by omega, rfl, by go_num, by go_num, HJ2.out, fun j hj => by
              have := hR.out j hj
              exact ⟨fun h => by have := hA.out.1 h; omega, fun h => by have := hA.out.2 h; omega⟩⟩
            case measure => simp [intOf]; omega
          · have HLt : Hid (∀ j, j < m' + 1 → R j < x) := hid (HJ2.out.last hR.out (by omega) (by rw [Nat.add_sub_cancel]; exact hne))
            have hnb : (R m' != x) = true := by simpa using hne
            go_wp2_with (at_builtin; refine wpList_append_own _ rfl _ _ 23 rfl w.heap.size 3 i0 (.int .i64 0) 1 8 Try.underlying23 hi hz0 hz1 hz2 rfl (by decide) _ (m' + 1) (zL R (m' + 1)) rfl (HJ2.out.own.alloc _) ⟨W.heap.size, 0, none⟩ 1 1 [.int .i64 x] rfl rfl (cell_one_new _ _ _) (by simp [Value.oneCell']) (by unfold maxLen; omega) (by omega) (by simp; have := HJ2.out.bel.size; omega) ?_; intro v2 W2 hown2 hgrow _; have HJ3 := hid (HJ2.out.push hX.out HLt.out hown2 ((HJ2.out.bel.alloc HJ2.out.bel.size _).grown hgrow (by simp; have := HJ2.out.bel.size; omega) (fun b e => (HJ2.out.own.lt b e).1))); clear hown2 hgrow)
            go_roundw
            case rel => exact ⟨i + 1, k, m' + 1 + 1, updF R (m' + 1) x, _, by omega, by omega, rfl, by go_num, by go_num, HJ3.out, fun j hj => by
              have h1 : updF R (m' + 1) x j ≤ x := by
                by_cases e : j = m' + 1
                · subst e; rw [updF_same]; omega
                · rw [updF_other _ _ e]; exact hR.out j (by omega)
              exact ⟨fun h => by have := hA.out.1 h; omega, fun h => by have := hA.out.2 h; omega⟩⟩
            case measure => simp [intOf]; omega
      · go_wp2
        have hd : decide (nb ≤ k) = true := by simp; omega
        go_quiet (fail)
        go_upto_region 10 with (fail)
        clear h3 hd
        have hX := hid hx.out.1
        have hR := hid hx.out.2.1
        have hA := hid hx.out.2.2
        clear hx
        have HJ2 : Hid (BtJ w (wr.drewN nq) N m (.slice q m c) R) := hid ⟨HJ.out.own, HJ.out.up, below_draws HJ.out.bel _⟩
        have hq2 : 0 < m → ∃ g, q = some ⟨g, 0, none⟩ ∧ (wr.drewN nq).cell? ⟨g, m - 1, none⟩ = some (.int .i64 (R (m - 1))) := hq
        clear hq HJ e1
        generalize wr.drewN nq = W at HJ2 hq2 ⊢
        generalize A i = x at hX hR hA ⊢
        rcases Nat.eq_zero_or_pos m with hm0 | hm0
        · subst hm0
          have HLt : Hid (∀ j, j < 0 → R j < x) := hid fun j hj => by omega
          clear hq2
          go_wp2_with (at_builtin; refine wpList_append_own _ rfl _ _ 23 rfl w.heap.size 3 i0 (.int .i64 0) 1 8 Try.underlying23 hi hz0 hz1 hz2 rfl (by decide) _ (0) (zL R (0)) rfl (HJ2.out.own.alloc _) ⟨W.heap.size, 0, none⟩ 1 1 [.int .i64 x] rfl rfl (cell_one_new _ _ _) (by simp [Value.oneCell']) (by unfold maxLen; omega) (by omega) (by simp; have := HJ2.out.bel.size; omega) ?_; intro v2 W2 hown2 hgrow _; have HJ3 := hid (HJ2.out.push hX.out HLt.out hown2 ((HJ2.out.bel.alloc HJ2.out.bel.size _).grown hgrow (by simp; have := HJ2.out.bel.size; omega) (fun b e => (HJ2.out.own.lt b e).1))); clear hown2 hgrow)
          go_roundw
          case rel => exact ⟨i + 1, k, 1, updF R 0 x, _, by omega, by omega, rfl, by go_num, by go_num, HJ3.out, fun j hj => by
            obtain rfl : j = 0 := by omega
            rw [updF_same]
            exact hA.out⟩
          case measure => simp [intOf]; omega
        · obtain ⟨m', rfl⟩ : ∃ m', m = m' + 1 := ⟨m - 1, by omega⟩
          obtain ⟨g, rfl, hg⟩ := hq2 hm0
          rw [Nat.add_sub_cancel] at hg
          clear hq2
          by_cases hne : R m' = x
          · go_wp2
            go_roundw
            case rel => exact ⟨i + 1, k, m' + 1, R, _, by omega, by omega, rfl, by go_num, by go_num, HJ2.out, fun j hj => by
              have := hR.out j hj
              exact ⟨fun h => by have := hA.out.1 h; omega, fun h => by have := hA.out.2 h; omega⟩⟩
            case measure => simp [intOf]; omega
          · have HLt : Hid (∀ j, j < m' + 1 → R j < x) := hid (HJ2.out.last hR.out (by omega) (by rw [Nat.add_sub_cancel]; exact hne))
            have hnb : (R m' != x) = true := by simpa using hne
            go_wp2_with (at_builtin; refine wpList_append_own _ rfl _ _ 23 rfl w.heap.size 3 i0 (.int .i64 0) 1 8 Try.underlying23 hi hz0 hz1 hz2 rfl (by decide) _ (m' + 1) (zL R (m' + 1)) rfl (HJ2.out.own.alloc _) ⟨W.heap.size, 0, none⟩ 1 1 [.int .i64 x] rfl rfl (cell_one_new _ _ _) (by simp [Value.oneCell']) (by unfold maxLen; omega) (by omega) (by simp; have := HJ2.out.bel.size; omega) ?_; intro v2 W2 hown2 hgrow _; have HJ3 := hid (HJ2.out.push hX.out HLt.out hown2 ((HJ2.out.bel.alloc HJ2.out.bel.size _).grown hgrow (by simp; have := HJ2.out.bel.size; omega) (fun b e => (HJ2.out.own.lt b e).1))); clear hown2 hgrow)
            go_roundw
            case rel => exact ⟨i + 1, k, m' + 1 + 1, updF R (m' + 1) x, _, by omega, by omega, rfl, by go_num, by go_num, HJ3.out, fun j hj => by
              have h1 : updF R (m' + 1) x j ≤ x := by
                by_cases e : j = m' + 1
                · subst e; rw [updF_same]; omega
                · rw [updF_other _ _ e]; exact hR.out j (by omega)
              exact ⟨fun h => by have := hA.out.1 h; omega, fun h => by have := hA.out.2 h; omega⟩⟩
            case measure => simp [intOf]; omega
    · obtain ⟨bb, ob, rfl, hbb, _, hcb⟩ := HCB.out (by omega)
      have e1 : wr.cell? ⟨bb, ob + k, none⟩ = some (.int .i64 (B k)) := (HJ.out.bel.cell (p := ⟨bb, _, none⟩) hbb).trans (hcb k h2)
      clear hcb
      have hx : Hid ((0 ≤ B k ∧ B k < N) ∧ (∀ j, j < m → R j ≤ B k) ∧ (i < na → B k ≤ A i) ∧ (k + 1 < nb → B k ≤ B (k + 1))) := hid ⟨HRB.out.inn k h2, fun j hj => (HLe.out j hj).2 h2, fun h => by have := h3 h; omega, fun h => by have := HRB.out.up k (k + 1) (by omega) h; omega⟩
      by_cases h1 : i < na
      · obtain ⟨ba, oa, rfl, hba, _, hca⟩ := HCA.out (by omega)
        have e2 : wr.cell? ⟨ba, oa + i, none⟩ = some (.int .i64 (A i)) := (HJ.out.bel.cell (p := ⟨ba, _, none⟩) hba).trans (hca i h1)
        have h4 := h3 h1
        clear hca h3
        go_wp2
        have hd2 : decide (A i ≤ B k) = false := by simp; omega
        go_quiet (fail)
        go_upto_region 10 with (fail)
        clear e2 h4 hd2
        have hX := hid hx.out.1
        have hR := hid hx.out.2.1
        have hA := hid hx.out.2.2
        clear hx
        have HJ2 : Hid (BtJ w (wr.drewN nq) N m (.slice q m c) R) := hid ⟨HJ.out.own, HJ.out.up, below_draws HJ.out.bel _⟩
        have hq2 : 0 < m → ∃ g, q = some ⟨g, 0, none⟩ ∧ (wr.drewN nq).cell? ⟨g, m - 1, none⟩ = some (.int .i64 (R (m - 1))) := hq
        clear hq HJ e1
        generalize wr.drewN nq = W at HJ2 hq2 ⊢
        generalize B k = x at hX hR hA ⊢
        rcases Nat.eq_zero_or_pos m with hm0 | hm0
        · subst hm0
          have HLt : Hid (∀ j, j < 0 → R j < x) := hid fun j hj => by omega
          clear hq2
          go_wp2_with (at_builtin; refine wpList_append_own _ rfl _ _ 23 rfl w.heap.size 3 i0 (.int .i64 0) 1 8 Try.underlying23 hi hz0 hz1 hz2 rfl (by decide) _ (0) (zL R (0)) rfl (HJ2.out.own.alloc _) ⟨W.heap.size, 0, none⟩ 1 1 [.int .i64 x] rfl rfl (cell_one_new _ _ _) (by simp [Value.oneCell']) (by unfold maxLen; omega) (by omega) (by simp; have := HJ2.out.bel.size; omega) ?_; intro v2 W2 hown2 hgrow _; have HJ3 := hid (HJ2.out.push hX.out HLt.out hown2 ((HJ2.out.bel.alloc HJ2.out.bel.size _).grown hgrow (by simp; have := HJ2.out.bel.size; omega) (fun b e => (HJ2.out.own.lt b e).1))); clear hown2 hgrow)
          go_roundw
          case rel => exact ⟨i, k + 1, 1, updF R 0 x, _, by omega, by omega, rfl, by go_num, by go_num, HJ3.out, fun j hj => by
            obtain rfl : j = 0 := by omega
            rw [updF_same]
            exact hA.out⟩
          case measure => simp [intOf]; omega
        · obtain ⟨m', rfl⟩ : ∃ m', m = m' + 1 := ⟨m - 1, by omega⟩
          obtain ⟨g, rfl, hg⟩ := hq2 hm0
          rw [Nat.add_sub_cancel] at hg
          clear hq2
          by_cases hne : R m' = x
          · go_wp2
            go_roundw
            case rel => exact ⟨i, k + 1, m' + 1, R, _, by omega, by omega, rfl, by go_num, by go_num, HJ2.out, fun j hj => by
              have := hR.out j hj
              exact ⟨fun h => by have := hA.out.1 h; omega, fun h => by have := hA.out.2 h; omega⟩⟩
            case measure => simp [intOf]; omega
          · have HLt : Hid (∀ j, j < m' + 1 → R j < x) := hid (HJ2.out.last hR.out (by omega) (by rw [Nat.add_sub_cancel]; exact hne))
            have hnb : (R m' != x) = true := by simpa using hne
            go_wp2_with (at_builtin; refine wpList_append_own _ rfl _ _ 23 rfl w.heap.size 3 i0 (.int .i64 0) 1 8 Try.underlying23 hi hz0 hz1 hz2 rfl (by decide) _ (m' + 1) (zL R (m' + 1)) rfl (HJ2.out.own.alloc _) ⟨W.heap.size, 0, none⟩ 1 1 [.int .i64 x] rfl rfl (cell_one_new _ _ _) (by simp [Value.oneCell']) (by unfold maxLen; omega) (by omega) (by simp; have := HJ2.out.bel.size; omega) ?_; intro v2 W2 hown2 hgrow _; have HJ3 := hid (HJ2.out.push hX.out HLt.out hown2 ((HJ2.out.bel.alloc HJ2.out.bel.size _).grown hgrow (by simp; have := HJ2.out.bel.size; omega) (fun b e => (HJ2.out.own.lt b e).1))); clear hown2 hgrow)
            go_roundw
            case rel => exact ⟨i, k + 1, m' + 1 + 1, updF R (m' + 1) x, _, by omega, by omega, rfl, by go_num, by go_num, HJ3.out, fun j hj => by
              have h1 : updF R (m' + 1) x j ≤ x := by
                by_cases e : j = m' + 1
                · subst e; rw [updF_same]; omega
                · rw [updF_other _ _ e]; exact hR.out j (by omega)
              exact ⟨fun h => by have := hA.out.1 h; omega, fun h => by have := hA.out.2 h; omega⟩⟩
            case measure => simp [intOf]; omega
      · go_wp2
        have hd : decide (nb ≤ k) = false := by simp; omega
        have hd2 : decide (i < na) = false := by simp; omega
        go_quiet (fail)
        go_upto_region 10 with (fail)
        clear h3 hd hd2
        have hX := hid hx.out.1
        have hR := hid hx.out.2.1
        have hA := hid hx.out.2.2
        clear hx
        have HJ2 : Hid (BtJ w (wr.drewN nq) N m (.slice q m c) R) := hid ⟨HJ.out.own, HJ.out.up, below_draws HJ.out.bel _⟩
        have hq2 : 0 < m → ∃ g, q = some ⟨g, 0, none⟩ ∧ (wr.drewN nq).cell? ⟨g, m - 1, none⟩ = some (.int .i64 (R (m - 1))) := hq
        clear hq HJ e1
        generalize wr.drewN nq = W at HJ2 hq2 ⊢
        generalize B k = x at hX hR hA ⊢
        rcases Nat.eq_zero_or_pos m with hm0 | hm0
        · subst hm0
          have HLt : Hid (∀ j, j < 0 → R j < x) := hid fun j hj => by omega
          clear hq2
          go_wp2_with (at_builtin; refine wpList_append_own _ rfl _ _ 23 rfl w.heap.size 3 i0 (.int .i64 0) 1 8 Try.underlying23 hi hz0 hz1 hz2 rfl (by decide) _ (0) (zL R (0)) rfl (HJ2.out.own.alloc _) ⟨W.heap.size, 0, none⟩ 1 1 [.int .i64 x] rfl rfl (cell_one_new _ _ _) (by simp [Value.oneCell']) (by unfold maxLen; omega) (by omega) (by simp; have := HJ2.out.bel.size; omega) ?_; intro v2 W2 hown2 hgrow _; have HJ3 := hid (HJ2.out.push hX.out HLt.out hown2 ((HJ2.out.bel.alloc HJ2.out.bel.size _).grown hgrow (by simp; have := HJ2.out.bel.size; omega) (fun b e => (HJ2.out.own.lt b e).1))); clear hown2 hgrow)
          go_roundw
          case rel => exact ⟨i, k + 1, 1, updF R 0 x, _, by omega, by omega, rfl, by go_num, by go_num, HJ3.out, fun j hj => by
            obtain rfl : j = 0 := by omega
            rw [updF_same]
            exact hA.out⟩
          case measure => simp [intOf]; omega
        · obtain ⟨m', rfl⟩ : ∃ m', m = m' + 1 := ⟨m - 1, by omega⟩
          obtain ⟨g, rfl, hg⟩ := hq2 hm0
          rw [Nat.add_sub_cancel] at hg
          clear hq2
          by_cases hne : R m' = x
          · go_wp2
            go_roundw
            case rel => exact ⟨i, k + 1, m' + 1, R, _, by omega, by omega, rfl, by go_num, by go_num, HJ2.out, fun j hj => by
              have := hR.out j hj
              exact ⟨fun h => by have := hA.out.1 h; omega, fun h => by have := hA.out.2 h; omega⟩⟩
            case measure => simp [intOf]; omega
          · have HLt : Hid (∀ j, j < m' + 1 → R j < x) := hid (HJ2.out.last hR.out (by omega) (by rw [Nat.add_sub_cancel]; exact hne))
            have hnb : (R m' != x) = true := by simpa using hne
            go_wp2_with (at_builtin; refine wpList_append_own _ rfl _ _ 23 rfl w.heap.size 3 i0 (.int .i64 0) 1 8 Try.underlying23 hi hz0 hz1 hz2 rfl (by decide) _ (m' + 1) (zL R (m' + 1)) rfl (HJ2.out.own.alloc _) ⟨W.heap.size, 0, none⟩ 1 1 [.int .i64 x] rfl rfl (cell_one_new _ _ _) (by simp [Value.oneCell']) (by unfold maxLen; omega) (by omega) (by simp; have := HJ2.out.bel.size; omega) ?_; intro v2 W2 hown2 hgrow _; have HJ3 := hid (HJ2.out.push hX.out HLt.out hown2 ((HJ2.out.bel.alloc HJ2.out.bel.size _).grown hgrow (by simp; have := HJ2.out.bel.size; omega) (fun b e => (HJ2.out.own.lt b e).1))); clear hown2 hgrow)
            go_roundw
            case rel => exact ⟨i, k + 1, m' + 1 + 1, updF R (m' + 1) x, _, by omega, by omega, rfl, by go_num, by go_num, HJ3.out, fun j hj => by
              have h1 : updF R (m' + 1) x j ≤ x := by
                by_cases e : j = m' + 1
                · subst e; rw [updF_same]; omega
                · rw [updF_other _ _ e]; exact hR.out j (by omega)
              exact ⟨fun h => by have := hA.out.1 h; omega, fun h => by have := hA.out.2 h; omega⟩⟩
            case measure => simp [intOf]; omega
    · go_wp2
      go_ret
      exact ⟨_, rfl, LsO.of_own HJ.out.own HJ.out.up, HJ.out.bel⟩
end Go.Proofs.Ytchjjbcmbdmlgaa
