/- Contracts of the answers by definition for layer 7: a number bit by bit (num, moved). -/
import Derived.Test.YtpmjfpdogbcigaaDoorRef07
import Derived.Test.YtpmjfpdogbcigaaDoorWordMem
namespace Go.Proofs.YtpmjfpdogbcigaaDoor
open Go.RowKit
set_option linter.unusedVariables false
set_option linter.unusedSimpArgs false

/-! ### num -/
theorem sumB_succ (f : Nat → Nat) (k : Nat) : sumB f (k + 1) = sumB f k + f k * 2 ^ k := rfl
theorem sumB_lt {f : Nat → Nat} (hf : ∀ i, f i ≤ 1) : ∀ k, sumB f k < 2 ^ k
  | 0 => by simp [sumB]
  | k + 1 => by
    have h1 := sumB_lt hf k
    have h2 : f k * 2 ^ k ≤ 2 ^ k := by have := Nat.mul_le_mul_right (2 ^ k) (hf k); simpa using this
    rw [sumB_succ, Nat.pow_succ]; omega
theorem sumB_le64 {f : Nat → Nat} (hf : ∀ i, f i ≤ 1) (k : Nat) (hk : k ≤ 64) : sumB f k < 18446744073709551616 := by
  have h1 := sumB_lt hf k
  have h2 : 2 ^ k ≤ 2 ^ 64 := Nat.pow_le_pow_right (by omega) hk
  have h3 : (2 : Nat) ^ 64 = 18446744073709551616 := by decide
  omega
theorem refNum_any (g : Nat) (f : Nat → Nat) (hf : ∀ i, f i ≤ 1) (w : World) (hc : ∀ i, i < 64 → w.cell? ⟨g, i, none⟩ = some (.int .i64 (f i : Nat))) :
    Calls Tryd.prog 60 #[.slice (some ⟨g, 0, none⟩) 64 64] w (Qt w (.int .i64 (i64N (sumB f 64)))) := by
  have HC := hid hc
  clear hc
  go_enter Tryd.func60, Tryd.ntmps60
  go_wp2
  go_loopw [3, 4] (fun o k wr => ∃ j m : Nat, j ≤ 64 ∧ k = .int .i64 j ∧ o = .int .u64 (sumB f j : Nat) ∧ wr = w.drewN m) (fun _ k _ => 64 - (intOf k).toNat)
  case atStart => exact ⟨0, 0, Nat.zero_le _, rfl, rfl, rfl⟩
  case round =>
    obtain ⟨j, m, hj, rfl, rfl, rfl⟩ := hrel
    by_cases hlt : j < 64
    · have hcell := HC.out j hlt
      have hs := hid (sumB_succ f j)
      have hb1 := sumB_le64 hf (j + 1) (by omega)
      have hb0 := sumB_le64 hf j (by omega)
      have hp := hid (refPower_any j · (by omega))
      have hfj : f j = 0 ∨ f j = 1 := by have := hf j; omega
      obtain ⟨p, hpw⟩ : ∃ p, p = 2 ^ j := ⟨_, rfl⟩
      have hp1 : p ≤ 9223372036854775808 := by
        have h1 : 2 ^ j ≤ 2 ^ 63 := Nat.pow_le_pow_right (by omega) (by omega)
        have h2 : (2 : Nat) ^ 63 = 9223372036854775808 := by decide
        omega
      rw [← hpw] at hs hp
      obtain ⟨s, hsj⟩ : ∃ s, s = sumB f j := ⟨_, rfl⟩
      obtain ⟨s', hsj'⟩ : ∃ s', s' = sumB f (j + 1) := ⟨_, rfl⟩
      rw [← hsj, ← hsj'] at hs
      rw [← hsj'] at hb1
      rw [← hsj] at hb0 ⊢
      have HS' := hid hsj'
      clear hsj hsj' hpw
      rcases hfj with hfj | hfj
      all_goals
        rw [hfj] at hcell hs
        clear hfj
        have hs2 : s' = s + _ := hs.out
        have Hs2 := hid hs2
        clear hs hs2
        go_wp2
        go_quiet ((go_at_call 44; exact Qt.at1 (Qt.of_same (hp.out _))))
        go_wp2
        go_roundw
        case rel => exact ⟨j + 1, _, by omega, by go_num, by rw [← HS'.out]; have hb2 := Hs2.out; rw [hb2]; rw [hb2] at hb1; clear hb2; simp only [Nat.one_mul, Nat.zero_mul, Nat.add_zero] at hb1 ⊢; first | done | (rw [wrapU]; congr 1; omega) | go_num, rfl⟩
        case measure => simp [intOf]; omega
    · obtain rfl : j = 64 := by omega
      have hb1 := sumB_le64 hf 64 (by omega)
      go_wp2
      go_ret
      exact Qt.mk _ _ _
/-! ### moved -/
/-- The bit at place i of a number of w bits, moved by n places; what comes in is x. -/
def mvB (a n : Nat) (up : Bool) (x w : Nat) (i : Nat) : Nat := if i < w then (if up = true then (if n ≤ i then bitN a (i - n) else x) else (if i + n < w then bitN a (i + n) else x)) else 0
theorem bitN_le (a i : Nat) : bitN a i ≤ 1 := by have := bitN_lt a i; omega
theorem mvB_le (a n : Nat) (up : Bool) (x w : Nat) (hx : x ≤ 1) (i : Nat) : mvB a n up x w i ≤ 1 := by
  unfold mvB
  have h1 := bitN_le a (i - n)
  have h2 := bitN_le a (i + n)
  split
  · split <;> split <;> omega
  · omega
/-- What is stored after j rounds. -/
def mvL (f : Nat → Nat) (j : Nat) : List Value := (List.range 64).map fun i => .int .i64 ((if i < j then f i else 0 : Nat) : Int)
theorem mvL_get (f : Nat → Nat) (j i : Nat) (h : i < 64) : (mvL f j)[i]? = some (.int .i64 ((if i < j then f i else 0 : Nat) : Int)) := by
  unfold mvL; rw [List.getElem?_map, List.getElem?_range h]; rfl
theorem mvL_set (f : Nat → Nat) (j : Nat) (h : j < 64) : (mvL f j).set j (.int .i64 (f j : Nat)) = mvL f (j + 1) := by
  refine List.ext_getElem? fun i => ?_
  rw [List.getElem?_set]
  by_cases hi : i < 64
  · rw [mvL_get f j i hi, mvL_get f (j + 1) i hi]
    by_cases e : j = i
    · subst e
      have hl : j < (mvL f j).length := by unfold mvL; simp; omega
      rw [if_pos rfl, if_pos hl, if_pos (by omega)]
    · rw [if_neg e]
      by_cases hij : i < j
      · rw [if_pos hij, if_pos (by omega)]
      · rw [if_neg hij, if_neg (by omega)]
  · have e1 : (mvL f j)[i]? = none := List.getElem?_eq_none (by unfold mvL; simp; omega)
    have e2 : (mvL f (j + 1))[i]? = none := List.getElem?_eq_none (by unfold mvL; simp; omega)
    rw [e1, e2, if_neg (by omega)]
theorem refMovedInfo : (Tryd.prog.info? 3).map (fun i => (i.zero, i.size, i.bytes)) = some (some (.int .i64 0), 1, 8) := by kernel_rfl
theorem refMoved_any (a : Int) (n x wd : Nat) (up : Bool) (hn : n ≤ 63) (hx : x ≤ 1) (hw : wd ≤ 64) (w : World) :
    Calls Tryd.prog 48 #[.int .i64 a, .int .i64 n, .bool up, .int .i64 x, .int .i64 wd] w fun e w' => e = .returned (.int .i64 (i64N (sumB (mvB (u64N a) n up x wd) 64))) ∧ Below w.heap.size w w' := by
  obtain ⟨i0, hi, hz0, hz1, hz2⟩ := info_parts refMovedInfo
  obtain ⟨B, hB⟩ : ∃ B, B = w.heap.size := ⟨_, rfl⟩
  have HB := hid hB
  have hle : B ≤ w.heap.size := by omega
  clear hB
  obtain ⟨f, hf⟩ : ∃ f, f = mvB (u64N a) n up x wd := ⟨_, rfl⟩
  have hfle : ∀ i, f i ≤ 1 := by rw [hf]; exact mvB_le _ _ _ _ _ hx
  have hfi := fun i => congrFun hf i
  rw [← hf]
  have HF := hid hfi
  have HL := hid hfle
  have hu := hid (u64N_eq a)
  have hul := u64N_lt a
  clear hf hfi hfle
  generalize u64N a = v at *
  go_enter Tryd.func48, Tryd.ntmps48
  go_wp2_with (at_make; refine wpList_make_full _ rfl _ _ 74 rfl B 3 i0 (.int .i64 0) 1 Tryd.underlying74 hi hz0 hz1 _ _ _ _ 64 rfl rfl rfl rfl ?c1 ?c2 ?c3 ?_)
  case c1 => rw [hz2]; omega
  case c2 => unfold maxLen; omega
  case c3 => exact hle
  intro w1 hown hgrow
  have hown0 : w1.ownsRow B 3 1 (.slice (some ⟨w.heap.size, 0, none⟩) 64 64) 64 (mvL f 0) := by
    have e : (madeCells (Value.int .i64 0).cells (64 * 1)).toList = mvL f 0 := by
      unfold mvL
      refine (toList_madeCells_one _ _).trans ?_
      have : (fun i : Nat => Value.int .i64 ((if i < 0 then f i else 0 : Nat) : Int)) = fun _ => .int .i64 0 := funext fun i => by rw [if_neg (Nat.not_lt_zero i)]; rfl
      rw [this, List.map_const', List.length_range]
    rw [← e]; exact hown
  have hbel : Below B w w1 := (Below.refl B w).grown hgrow hle (fun k hk => by cases hk)
  generalize w.heap.size = g at hown0 hgrow ⊢
  clear hown hgrow
  have hu' := hu.out
  cases up
  · go_wp2
    go_loopw [12] (fun k wr => ∃ j : Nat, j ≤ wd ∧ k = .int .i64 j ∧ wr.ownsRow B 3 1 (.slice (some ⟨g, 0, none⟩) 64 64) 64 (mvL f j) ∧ Below B w wr) (fun k _ => wd - (intOf k).toNat)
    case atStart => exact ⟨0, Nat.zero_le _, rfl, hown0, hbel⟩
    case round =>
      obtain ⟨j, hj, rfl, hown, hbel⟩ := hrel
      by_cases hlt : j < wd
      · have hfz := hown.frozenAt j
        have hcell : wr.cell? ⟨g, j, none⟩ = some (.int .i64 0) := by rw [hown.cellAt j (by omega), mvL_get f j j (by omega), if_neg (by omega)]; rfl
        have hb := (hown.lt g rfl).1
        have Hown := hid hown
        have hfj := HF.out j
        unfold mvB at hfj
        rw [if_pos hlt, if_neg (by decide)] at hfj
        clear hown hown0
        by_cases hk : j + n < wd
        · rw [if_pos hk] at hfj
          have hc := fun W => refBit_any v (j + n) W hul (by omega)
          rw [← hfj, show ((j + n : Nat) : Int) = (j : Int) + n by omega] at hc
          have hc' := hid hc
          have Hfj := hid hfj
          clear hc hfj
          go_wp2_with (go_at_call 45; refine (hc'.out _).mono ?_; rintro e w' ⟨rfl, rfl⟩)
          have hn := ((Hown.out.stored j (.int .i64 x)).1.stored j (.int .i64 (f j : Nat))).1
          rw [List.set_set, mvL_set f j (by omega)] at hn
          go_roundw
          case rel => exact ⟨j + 1, by omega, by go_num, hn, (hbel.setCell hb _).setCell hb _⟩
          case measure => simp [intOf]; omega
        · rw [if_neg hk] at hfj
          have Hfj := hid hfj
          clear hfj
          go_wp2
          have hn := (Hown.out.stored j (.int .i64 x)).1
          rw [← Hfj.out, mvL_set f j (by omega)] at hn
          rw [← Hfj.out]
          go_roundw
          case rel => exact ⟨j + 1, by omega, by go_num, hn, hbel.setCell hb _⟩
          case measure => simp [intOf]; omega
      · obtain rfl : wd = j := by omega
        have hc : ∀ i, i < 64 → wr.cell? ⟨g, i, none⟩ = some (.int .i64 (f i : Nat)) := fun i hi => by
          rw [hown.cellAt i (by omega), mvL_get f wd i hi]
          by_cases hw : i < wd
          · rw [if_pos hw]
          · have := HF.out i
            unfold mvB at this
            rw [if_neg hw] at this
            rw [if_neg hw, this]
        have hq := hid (refNum_any g f HL.out wr hc)
        clear hc hown hown0
        go_wp2_with (go_at_call 60; refine hq.out.mono ?_; rintro e w' ⟨rfl, m, rfl⟩)
        go_ret
        rw [HB.out] at hbel
        exact ⟨rfl, below_draws hbel _⟩
  · go_wp2
    go_loopw [12] (fun k wr => ∃ j : Nat, j ≤ wd ∧ k = .int .i64 j ∧ wr.ownsRow B 3 1 (.slice (some ⟨g, 0, none⟩) 64 64) 64 (mvL f j) ∧ Below B w wr) (fun k _ => wd - (intOf k).toNat)
    case atStart => exact ⟨0, Nat.zero_le _, rfl, hown0, hbel⟩
    case round =>
      obtain ⟨j, hj, rfl, hown, hbel⟩ := hrel
      by_cases hlt : j < wd
      · have hfz := hown.frozenAt j
        have hcell : wr.cell? ⟨g, j, none⟩ = some (.int .i64 0) := by rw [hown.cellAt j (by omega), mvL_get f j j (by omega), if_neg (by omega)]; rfl
        have hb := (hown.lt g rfl).1
        have Hown := hid hown
        have hfj := HF.out j
        unfold mvB at hfj
        rw [if_pos hlt, if_pos rfl] at hfj
        clear hown hown0
        by_cases hk : n ≤ j
        · rw [if_pos hk] at hfj
          have hc := fun W => refBit_any v (j - n) W hul (by omega)
          rw [← hfj, show ((j - n : Nat) : Int) = (j : Int) - n by omega] at hc
          have hc' := hid hc
          have Hfj := hid hfj
          clear hc hfj
          go_wp2_with (go_at_call 45; refine (hc'.out _).mono ?_; rintro e w' ⟨rfl, rfl⟩)
          have hn := ((Hown.out.stored j (.int .i64 x)).1.stored j (.int .i64 (f j : Nat))).1
          rw [List.set_set, mvL_set f j (by omega)] at hn
          go_roundw
          case rel => exact ⟨j + 1, by omega, by go_num, hn, (hbel.setCell hb _).setCell hb _⟩
          case measure => simp [intOf]; omega
        · rw [if_neg hk] at hfj
          have Hfj := hid hfj
          clear hfj
          go_wp2
          have hn := (Hown.out.stored j (.int .i64 x)).1
          rw [← Hfj.out, mvL_set f j (by omega)] at hn
          rw [← Hfj.out]
          go_roundw
          case rel => exact ⟨j + 1, by omega, by go_num, hn, hbel.setCell hb _⟩
          case measure => simp [intOf]; omega
      · obtain rfl : wd = j := by omega
        have hc : ∀ i, i < 64 → wr.cell? ⟨g, i, none⟩ = some (.int .i64 (f i : Nat)) := fun i hi => by
          rw [hown.cellAt i (by omega), mvL_get f wd i hi]
          by_cases hw : i < wd
          · rw [if_pos hw]
          · have := HF.out i
            unfold mvB at this
            rw [if_neg hw] at this
            rw [if_neg hw, this]
        have hq := hid (refNum_any g f HL.out wr hc)
        clear hc hown hown0
        go_wp2_with (go_at_call 60; refine hq.out.mono ?_; rintro e w' ⟨rfl, m, rfl⟩)
        go_ret
        rw [HB.out] at hbel
        exact ⟨rfl, below_draws hbel _⟩
end Go.Proofs.YtpmjfpdogbcigaaDoor
