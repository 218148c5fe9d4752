/- The reference's relations: Pairs; two lists of pairs compared. -/
import Derived.Test.YthmmmbfjhfocfaaDoorRefA14
import Derived.Test.YthmmmbfjhfocfaaDoorPairs14
namespace Go.Proofs.YthmmmbfjhfocfaaDoor
open Go Go.RowKit
set_option linter.unusedVariables false
set_option linter.unusedSimpArgs false

theorem filter_range (f : Nat → Bool) (n : Nat) (hf : ∀ x, f x = true → x < n) : ∀ d, (List.range (n + d)).filter f = (List.range n).filter f
  | 0 => rfl
  | d + 1 => by
    have ih := filter_range f n hf d
    rw [← Nat.add_assoc, List.range_succ, List.filter_append, ih]
    have : f (n + d) = false := by
      cases h : f (n + d)
      · rfl
      · have := hf _ h; omega
    simp [this]
theorem els_n {f : Nat → Bool} {n : Nat} (hf : ∀ x, f x = true → x < n) (hn : n ≤ 512) : els f = (List.range n).filter f := by
  have h := filter_range f n hf (512 - n)
  rw [show n + (512 - n) = 512 by omega] at h
  exact h
/-- The pairs of row a below b. -/
def rowTo (m : Nat → Nat → Bool) (a b : Nat) : List (Nat × Nat) := ((List.range b).filter (m a)).map fun x => (a, x)
theorem rowTo_yes {m : Nat → Nat → Bool} {a b : Nat} (h : m a b = true) : rowTo m a (b + 1) = rowTo m a b ++ [(a, b)] := by
  unfold rowTo
  rw [List.range_succ, List.filter_append, List.map_append]; simp [h]
theorem rowTo_no {m : Nat → Nat → Bool} {a b : Nat} (h : m a b = false) : rowTo m a (b + 1) = rowTo m a b := by
  unfold rowTo
  rw [List.range_succ, List.filter_append, List.map_append]; simp [h]
theorem rowTo_all {m : Nat → Nat → Bool} {a n : Nat} (hm : ∀ a b, m a b = true → a < n ∧ b < n) (hn : n ≤ 512) : prs a m ++ rowTo m a n = prs (a + 1) m := by
  rw [prs_succ, els_n (fun x hx => (hm _ _ hx).2) hn]; rfl
theorem rowTo_len (m : Nat → Nat → Bool) (a b : Nat) : (rowTo m a b).length ≤ b := by
  unfold rowTo
  rw [List.length_map]
  exact Nat.le_trans (List.length_filter_le _ _) (by simp)
set_option maxRecDepth 100000 in
set_option maxHeartbeats 2000000 in
theorem refPairs_ret {w : World} {c0 n : Nat} {v : Value} {ρ : Nat → Nat} {m : Nat → Nat → Bool} (h : RfC w c0 n v ρ m) : Calls Tryd.prog 15 #[.pointer (some ⟨c0, 0, none⟩)] w (MkP w (prs n m)) := by
  obtain ⟨i0, hi0, hz0, hz1, hz2⟩ := info_parts pairInfo
  have h5 := h.n512
  have Hh := hid h
  clear h
  obtain ⟨B, hBd⟩ : ∃ B, B = w.heap.size := ⟨_, rfl⟩
  have HBd := hid hBd
  have hB0 : Below B w w := Below.refl _ _
  go_enter Tryd.func15, Tryd.ntmps15
  go_wp2
  go_loopw [3, 4] (fun s k wr => ∃ a : Nat, a ≤ n ∧ k = .int .i64 a ∧ wr.ownsRow B 23 2 s (prs a m).length (cellsP (prs a m)) ∧ Below B w wr) (fun _ k _ => n - (intOf k).toNat)
  case atStart => exact ⟨0, Nat.zero_le _, rfl, World.ownsRow_nil _ _ _ _, hB0⟩
  case round =>
    obtain ⟨a, ha, rfl, hrow, hb⟩ := hrel
    have hR := Hh.out.below (HBd.out ▸ hb)
    have cn := hR.ncell
    by_cases hlt : a < n
    · have hal := off_le m a
      rw [← prs_len] at hal
      have Hrow := hid hrow
      have HB := hid hb
      clear hrow hb hR
      go_wp2
      go_loopw [3, 5] (fun s k wr => ∃ b : Nat, b ≤ n ∧ k = .int .i64 b ∧ wr.ownsRow B 23 2 s (prs a m ++ rowTo m a b).length (cellsP (prs a m ++ rowTo m a b)) ∧ Below B w wr) (fun _ k _ => n - (intOf k).toNat)
      case atStart => exact ⟨0, Nat.zero_le _, rfl, by rw [show rowTo m a 0 = [] from rfl, List.append_nil]; exact Hrow.out, HB.out⟩
      case round =>
        obtain ⟨b, hb', rfl, hrow, hb⟩ := hrel
        have hR := Hh.out.below (HBd.out ▸ hb)
        have cn := hR.ncell
        by_cases hlb : b < n
        · have cv := hR.vcell
          obtain ⟨c1, cap, rfl, hcap, h1⟩ := hR.at1 (by omega)
          have cr : wr.cell? ⟨c1, a, none⟩ = some (.slice (some ⟨ρ a, 0, none⟩) n n) := h1.cell hlt
          have cb : wr.cell? ⟨ρ a, b, none⟩ = some (.bool (m a b)) := (hR.rows a hlt).cell (i := b) hlb
          have hrl := rowTo_len m a b
          have hll : (prs a m ++ rowTo m a b).length ≤ a * 512 + b := by rw [List.length_append]; omega
          cases hm : m a b
          · rw [hm] at cb
            rw [← rowTo_no hm] at hrow
            have Hrow2 := hid hrow
            have HB2 := hid hb
            clear hrow hb hR h1 hm
            go_wp2
            go_roundw
            case rel => exact ⟨b + 1, by omega, by go_num, Hrow2.out, HB2.out⟩
            case measure => simp [intOf]; omega
          · rw [hm] at cb
            have hst := rowTo_yes hm
            have hb2 : B ≤ wr.heap.size := by have := hb.size; have := HBd.out; omega
            have Hrow2 := hid hrow
            have HB2 := hid hb
            have Hst := hid hst
            clear hrow hb hR h1 hm hst
            go_wp2_with (at_builtin; refine wpList_append_own _ rfl _ _ 22 rfl B 23 i0 (.agg #[.int .i64 0, .int .i64 0]) 2 16 Tryd.underlying22 hi0 hz0 hz1 hz2 rfl (by decide) _ _ (cellsP (prs a m ++ rowTo m a b)) rfl (Hrow2.out.alloc _) ⟨wr.heap.size, 0, none⟩ 1 1 [.int .i64 a, .int .i64 b] rfl rfl (cell_two_new _ _ _ _) (by simp [Value.oneCell']) (by unfold maxLen; omega) (by omega) (by simp; omega) ?_; intro v' w1' hown' hgrow _; refine Hid.out ?_)
            have hrow' : w1'.ownsRow B 23 2 v' (prs a m ++ rowTo m a (b + 1)).length (cellsP (prs a m ++ rowTo m a (b + 1))) := by
              rw [Hst.out, ← List.append_assoc, cellsP_snoc, List.length_append (bs := [(a, b)])]; exact hown'
            have hb' : Below B w w1' := (HB2.out.alloc hb2 _).grown hgrow (by simp; omega) (fun q hq => (row_obj Hrow2.out q hq).1)
            clear hown' hgrow
            refine hid ?_
            go_wp2
            go_roundw
            case rel => exact ⟨b + 1, by omega, by go_num, hrow', hb'⟩
            case measure => simp [intOf]; omega
        · obtain rfl : n = b := by omega
          rw [rowTo_all Hh.out.inn h5] at hrow
          clear hR
          go_wp2
          go_roundw
          case rel => exact ⟨a + 1, by omega, by go_num, hrow, hb⟩
          case measure => simp [intOf]; omega
    · obtain rfl : n = a := by omega
      clear hR
      go_wp2
      go_ret
      obtain rfl := HBd.out
      exact ⟨_, rfl, hrow, hb⟩
end Go.Proofs.YthmmmbfjhfocfaaDoor
