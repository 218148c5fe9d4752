/- The law RelPairs of layer 14. -/
import Derived.Test.YthmmmbfjhfocfaaDoorBth14
import Derived.Test.YthmmmbfjhfocfaaDoorPairs14
namespace Go.Proofs.YthmmmbfjhfocfaaDoor
open Go Go.RowKit
set_option linter.unusedVariables false
set_option linter.unusedSimpArgs false

/-- A list of pairs of one's own, if there is one. -/
def RowO (W : World) (l : List (Nat × Nat)) (o : Option Value) : Prop := ∀ u, o = some u → ∃ base, W.ownsRow base 23 2 u l.length (cellsP l)
theorem RowO.none (W : World) (l : List (Nat × Nat)) : RowO W l none := fun u h => by cases h
theorem RowO.below {W W' : World} {l : List (Nat × Nat)} {o : Option Value} (h : RowO W l o) (hb : Below W.heap.size W W') : RowO W' l o := fun u hu => by
  obtain ⟨base, h1⟩ := h u hu
  exact ⟨base, RdP.below h1 hb⟩
/-- The two relations, and their lists of pairs so far. -/
structure Jp (w W : World) (b0 b1 c0 N : Nat) (v : Value) (ρ : Nat → Nat) (m : Nat → Nat → Bool) (ou ov : Option Value) : Prop where
  bo : Bo w W b0 b1 c0 N v ρ m m
  ru : RowO W (prs N m) ou
  rv : RowO W (prs N m) ov
theorem Jp.then {w W W' : World} {b0 b1 c0 N : Nat} {v : Value} {ρ : Nat → Nat} {m : Nat → Nat → Bool} {ou ov : Option Value} (h : Jp w W b0 b1 c0 N v ρ m ou ov) (hb : Below W.heap.size W W') : Jp w W' b0 b1 c0 N v ρ m ou ov := ⟨h.bo.then hb, h.ru.below hb, h.rv.below hb⟩
theorem jp_pairs {w W : World} {b0 b1 c0 N : Nat} {v : Value} {ρ : Nat → Nat} {m : Nat → Nat → Bool} {ov : Option Value} (hG : TzOk w) (h : Jp w W b0 b1 c0 N v ρ m none ov) :
    Calls Tryd.prog 14 #[.pointer (some ⟨b0, 0, none⟩)] W fun e w' => ∃ u, e = .returned u ∧ Jp w w' b0 b1 c0 N v ρ m (some u) ov := by
  refine (pairs_ret (some ⟨b0, 0, none⟩) b0 b1 N m W (.inr ⟨rfl, h.bo.a⟩) (hG.below h.bo.below)).mono ?_
  rintro e w' ⟨u, he, hrow, hb⟩
  exact ⟨u, he, h.bo.then hb, fun u' hu => by cases hu; exact ⟨_, hrow⟩, h.rv.below hb⟩
theorem jp_refPairs {w W : World} {b0 b1 c0 N : Nat} {v : Value} {ρ : Nat → Nat} {m : Nat → Nat → Bool} {ou : Option Value} (h : Jp w W b0 b1 c0 N v ρ m ou none) :
    Calls Tryd.prog 15 #[.pointer (some ⟨c0, 0, none⟩)] W fun e w' => ∃ u, e = .returned u ∧ Jp w w' b0 b1 c0 N v ρ m ou (some u) := by
  refine (refPairs_ret h.bo.b).mono ?_
  rintro e w' ⟨u, he, hrow, hb⟩
  exact ⟨u, he, h.bo.then hb, h.ru.below hb, fun u' hu => by cases hu; exact ⟨_, hrow⟩⟩
theorem prs_le (n : Nat) (hn : n ≤ 512) (m : Nat → Nat → Bool) : (prs n m).length ≤ 9223372036854775807 := by
  rw [prs_len]
  have := off_le m n
  omega
theorem jp_same {w W : World} {b0 b1 c0 N : Nat} {v : Value} {ρ : Nat → Nat} {m : Nat → Nat → Bool} {u u' : Value} (h : Jp w W b0 b1 c0 N v ρ m (some u) (some u')) :
    Calls Tryd.prog 13 #[u, u'] W fun e w' => e = .returned (.bool true) ∧ Jp w w' b0 b1 c0 N v ρ m (some u) (some u') := by
  obtain ⟨_, h1⟩ := h.ru u rfl
  obtain ⟨_, h2⟩ := h.rv u' rfl
  refine (same_yes (prs_le N h.bo.a.n512 m) (own_rdP h1) (own_rdP h2)).mono ?_
  rintro e w' ⟨he, k, rfl⟩
  exact ⟨he, h.then (Fr.to_below ((Fr.refl _ W).draws k))⟩
theorem jp_has {w W : World} {b0 b1 c0 N : Nat} {v : Value} {ρ : Nat → Nat} {m : Nat → Nat → Bool} {ou ov : Option Value} (h : Jp w W b0 b1 c0 N v ρ m ou ov) (x y : Int) :
    Calls Tryd.prog 16 #[.pointer (some ⟨b0, 0, none⟩), .int .i64 x, .int .i64 y] W fun e w' => e = .returned (.bool (hasZ N m x y)) ∧ w' = W := has_ret h.bo.a.v x y
theorem jp_refHas {w W : World} {b0 b1 c0 N : Nat} {v : Value} {ρ : Nat → Nat} {m : Nat → Nat → Bool} {ou ov : Option Value} (h : Jp w W b0 b1 c0 N v ρ m ou ov) (x y : Int) :
    Calls Tryd.prog 17 #[.pointer (some ⟨c0, 0, none⟩), .int .i64 x, .int .i64 y] W fun e w' => e = .returned (.bool (hasZ N m x y)) ∧ w' = W := refHas_ret h.bo.b x y
theorem few_of {n : Int} {len : Nat} (h : (decide (n ≤ 80) && decide (len ≤ 300)) = true) : n ≤ 80 := by simp at h; exact h.1

set_option maxRecDepth 100000 in
set_option maxHeartbeats 4000000 in
theorem relPairs_few (n : Int) (a : Option Addr) (len cap : Nat) (p q : Nat → Int) (x y : Int) (w : World) (hG : TzOk w) (hP : PIn w a len cap p q) (hf : (decide (n ≤ 80) && decide (len ≤ 300)) = true) : Calls Tryd.prog 3 #[.int .i64 n, .slice a len cap, .agg #[.int .i64 x, .int .i64 y]] w (Holds w) := by
  have hl : len ≤ 9223372036854775807 := by have := hP.1; have := hP.2.1; unfold maxLen at this; omega
  have HF := hid (fun w => few_ret n a len cap hl w)
  rw [hf] at HF
  have hn := few_of hf
  have hPn := hP.below (Fr.to_below ((Fr.refl _ w).alloc (.cells #[.int .i64 x, .int .i64 y] 23)))
  have hGn := hG.below (Fr.to_below ((Fr.refl _ w).alloc (.cells #[.int .i64 x, .int .i64 y] 23)))
  have hbelow := Fr.to_below ((Fr.refl [] w).alloc (.cells #[.int .i64 x, .int .i64 y] 23))
  have hx0 := cell_two_new w (.int .i64 x) (.int .i64 y) 23 0 _ rfl
  have hx1 := cell_two_new w (.int .i64 x) (.int .i64 y) 23 1 _ rfl
  have hsz : w.heap.size < (w.alloc (.cells #[.int .i64 x, .int .i64 y] 23)).heap.size := by simp
  have HB := hid (both_ret n hn _ a len cap p q hPn)
  have HH := hid (And.intro hGn (And.intro hbelow (And.intro hx0 (And.intro hx1 hsz))))
  clear hP hPn hG hGn hbelow hx0 hx1 hsz hf hn hl
  go_enter Tryd.func3, Tryd.ntmps3
  go_wp2_with (go_at_call 8; refine (HF.out _).mono ?_; rintro e' w2 ⟨rfl, rfl⟩)
  clear HF
  go_wp2_with (go_at_call 12; refine HB.out.mono ?_; clear HB; rintro e' w3 ⟨b0, b1, c0, v, ρ, m, rfl, hbo⟩; refine Hid.out ?_)
  obtain ⟨hG1, hB1, hx0, hx1, hsz⟩ := HH.out
  have HAw := hid (awake_ret w3 (hG1.below hbo.below))
  have HBo := hid hbo
  clear hbo hG1 hB1 hx0 hx1 hsz
  refine hid ?_
  go_wp2_with (go_at_call 11; refine HAw.out.mono ?_; clear HAw; rintro e' w4 ⟨rfl, hb4⟩; refine Hid.out ?_)
  obtain ⟨hG1, hB1, hx0, hx1, hsz⟩ := HH.out
  have hJ : Jp _ w4.drew b0 b1 c0 (clN n) v ρ m none none := ⟨(HBo.out.then hb4).dr, RowO.none _ _, RowO.none _ _⟩
  obtain ⟨W0, hW0⟩ : ∃ W0, w.alloc (.cells #[.int .i64 x, .int .i64 y] 23) = W0 := ⟨_, rfl⟩
  rw [hW0] at hJ hG1 hB1 hx0 hx1 hsz HBo HH
  obtain ⟨N, hN⟩ : ∃ N, clN n = N := ⟨_, rfl⟩
  rw [hN] at hJ HBo
  have hbx : ∀ (W : World) ou ov, Jp W0 W b0 b1 c0 N v ρ m ou ov → W.cell? ⟨w.heap.size, 0, none⟩ = some (.int .i64 x) ∧ W.cell? ⟨w.heap.size, 1, none⟩ = some (.int .i64 y) := fun W ou ov h => by
    have := h.bo.below.block _ hsz
    exact ⟨by simpa [World.cell?, this, Addr.add] using hx0, by simpa [World.cell?, this, Addr.add] using hx1⟩
  have HBX := hid hbx
  have HP1 := hid (fun (W : World) ov (h : Jp W0 W b0 b1 c0 N v ρ m none ov) => jp_pairs hG1 h)
  have HP2 := hid (fun (W : World) ou (h : Jp W0 W b0 b1 c0 N v ρ m ou none) => jp_refPairs h)
  have HP3 := hid (fun (W : World) (u u' : Value) (h : Jp W0 W b0 b1 c0 N v ρ m (some u) (some u')) => jp_same h)
  have HP4 := hid (fun (W : World) ou ov (h : Jp W0 W b0 b1 c0 N v ρ m ou ov) => jp_has h x y)
  have HP5 := hid (fun (W : World) ou ov (h : Jp W0 W b0 b1 c0 N v ρ m ou ov) => jp_refHas h x y)
  obtain ⟨s0, s1⟩ := hbx _ _ _ hJ
  have HH2 := hid (And.intro hB1 hsz)
  clear hbx hG1 hB1 hx0 hx1 hsz HH HBo hb4 hN hW0
  refine hid ?_
  go_wp2
  go_region_held3 (fun W => W.cell? ⟨w.heap.size, 0, none⟩ = some (.int .i64 x) ∧ W.cell? ⟨w.heap.size, 1, none⟩ = some (.int .i64 y)) (first | assumption | (refine ⟨?_, ?_⟩ <;> assumption)) (first
    | (go_at_call 14; refine (HP1.out _ _ (by assumption)).mono ?_; rintro e' w5 ⟨u, rfl, hj5⟩; obtain ⟨k1, k2⟩ := HBX.out _ _ _ hj5)
    | (go_at_call 15; refine (HP2.out _ _ (by assumption)).mono ?_; rintro e' w5 ⟨u, rfl, hj5⟩; obtain ⟨k1, k2⟩ := HBX.out _ _ _ hj5)
    | (go_at_call 13; refine (HP3.out _ _ _ (by assumption)).mono ?_; rintro e' w5 ⟨rfl, hj5⟩; obtain ⟨k1, k2⟩ := HBX.out _ _ _ hj5)
    | (go_at_call 16; refine (HP4.out _ _ _ (by assumption)).mono ?_; rintro e' w5 ⟨rfl, rfl⟩)
    | (go_at_call 17; refine (HP5.out _ _ _ (by assumption)).mono ?_; rintro e' w5 ⟨rfl, rfl⟩))
  all_goals
    have hfin := HH2.out.1.trans (hj5.bo.below.mono HH2.out.1.size)
    go_wp2
    go_ret
    exact ⟨rfl, hfin⟩
set_option maxRecDepth 100000 in
set_option maxHeartbeats 4000000 in
theorem relPairs_many (n : Int) (a : Option Addr) (len cap : Nat) (hl : len ≤ 9223372036854775807) (x y : Int) (w : World) (hG : TzOk w) (hf : (decide (n ≤ 80) && decide (len ≤ 300)) = false) : Calls Tryd.prog 3 #[.int .i64 n, .slice a len cap, .agg #[.int .i64 x, .int .i64 y]] w (Holds w) := by
  have HF := hid (fun w => few_ret n a len cap hl w)
  rw [hf] at HF
  have HN := hid (fun w => new_ret n w)
  have hGn := hG.below (Fr.to_below ((Fr.refl _ w).alloc (.cells #[.int .i64 x, .int .i64 y] 23)))
  have hbelow := Fr.to_below ((Fr.refl [] w).alloc (.cells #[.int .i64 x, .int .i64 y] 23))
  have HH := hid (And.intro hGn hbelow)
  clear hG hGn hbelow hf hl
  by_cases hn : n ≤ 80
  · have hd : decide (n ≤ 80) = true := by simpa using hn
    go_enter Tryd.func3, Tryd.ntmps3
    go_wp2_with (go_at_call 8; refine (HF.out _).mono ?_; clear HF; rintro e' w2 ⟨rfl, rfl⟩)
    go_wp2_with (go_at_call 9; refine (HN.out _).mono ?_; clear HN; rintro e' w3 ⟨b0, b1, rfl, hr3, h0, h1, hb3⟩; refine Hid.out ?_)
    have HAw := hid (awake_ret w3 (HH.out.1.below hb3))
    have HB := hid (HH.out.2.trans (hb3.mono HH.out.2.size))
    clear hr3 h0 h1 hb3 HH
    refine hid ?_
    go_wp2_with (go_at_call 11; refine HAw.out.mono ?_; clear HAw; rintro e' w4 ⟨rfl, hb4⟩; refine Hid.out ?_)
    have HB2 := hid (HB.out.trans (hb4.mono HB.out.size))
    clear hb4 HB
    refine hid ?_
    go_wp2
    go_ret
    exact ⟨rfl, HB2.out⟩
  · have hd : decide (n ≤ 80) = false := by simpa using hn
    have hmin : min n 512 = (clN n : Int) := by unfold clN; omega
    go_enter Tryd.func3, Tryd.ntmps3
    go_wp2_with (go_at_call 8; refine (HF.out _).mono ?_; clear HF; rintro e' w2 ⟨rfl, rfl⟩)
    go_wp2_with (go_at_call 9; refine (HN.out _).mono ?_; clear HN; rintro e' w3 ⟨b0, b1, rfl, hr3, h0, h1, hb3⟩; refine Hid.out ?_)
    have HL := hid (len_ret hr3.v)
    have HAw := hid (awake_ret w3 (HH.out.1.below hb3))
    have HB := hid (HH.out.2.trans (hb3.mono HH.out.2.size))
    clear hr3 h0 h1 hb3 HH
    refine hid ?_
    go_wp2_with (go_at_call 10; refine HL.out.mono ?_; clear HL; rintro e' w4 ⟨rfl, rfl⟩)
    all_goals
      go_wp2_with (go_at_call 11; refine HAw.out.mono ?_; clear HAw; rintro e' w5 ⟨rfl, hb5⟩; refine Hid.out ?_)
      have HB2 := hid (HB.out.trans (hb5.mono HB.out.size))
      clear hb5 HB
      refine hid ?_
      go_wp2
      go_ret
      exact ⟨rfl, HB2.out⟩
theorem relPairs_walk (n : Int) (a : Option Addr) (len cap : Nat) (p q : Nat → Int) (x y : Int) (w : World) (hG : TzOk w) (wn : (Lit.int .i64 n).wf = true) (hP : PIn w a len cap p q) (wx : (Lit.int .i64 x).wf = true) (wy : (Lit.int .i64 y).wf = true) : Calls Tryd.prog 3 #[.int .i64 n, .slice a len cap, .agg #[.int .i64 x, .int .i64 y]] w (Holds w) := by
  cases hf : (decide (n ≤ 80) && decide (len ≤ 300))
  · exact relPairs_many n a len cap (by have := hP.1; have := hP.2.1; unfold maxLen at this; omega) x y w hG hf
  · exact relPairs_few n a len cap p q x y w hG hP hf
end Go.Proofs.YthmmmbfjhfocfaaDoor
