/- Where a relation leads; rounds and orders. No word of the program. -/
import Derived.Test.YthmmmbfjhfocfaaDoorClo14
import Derived.Test.YthmmmbfjhfocfaaDoorPur14
namespace Go.Proofs.YthmmmbfjhfocfaaDoor
open Go Go.RowKit
set_option linter.unusedVariables false
set_option linter.unusedSimpArgs false

inductive TG (m : Nat → Nat → Bool) : Nat → Nat → Prop
  | one {a b : Nat} (h : m a b = true) : TG m a b
  | snoc {a b c : Nat} (h : TG m a b) (h2 : m b c = true) : TG m a c
theorem TG.trans {m : Nat → Nat → Bool} {a b c : Nat} (h : TG m a b) (h2 : TG m b c) : TG m a c := by
  induction h2 with
  | one h3 => exact .snoc h h3
  | snoc _ h3 ih => exact .snoc ih h3
noncomputable def tcB (m : Nat → Nat → Bool) : Nat → Nat → Bool := fun a b => @decide (TG m a b) (Classical.propDecidable _)
theorem tcB_iff {m : Nat → Nat → Bool} {a b : Nat} : tcB m a b = true ↔ TG m a b := by unfold tcB; exact @decide_eq_true_iff _ (Classical.propDecidable _)
theorem TG.lt {m : Nat → Nat → Bool} {n : Nat} (hm : ∀ a b, m a b = true → a < n ∧ b < n) {a b : Nat} (h : TG m a b) : a < n ∧ b < n := by
  induction h with
  | one h => exact hm _ _ h
  | snoc _ h2 ih => exact ⟨ih.1, (hm _ _ h2).2⟩
theorem tcB_in {m : Nat → Nat → Bool} {n : Nat} (hm : ∀ a b, m a b = true → a < n ∧ b < n) : ∀ a b, tcB m a b = true → a < n ∧ b < n := fun a b h => (tcB_iff.1 h).lt hm
/-- One pass. -/
def wsP (m : Nat → Nat → Bool) (x a : Nat) : Nat → Nat → Bool := fun p y => m p y || (decide (p < a) && m p x && m x y)
theorem wsI_eq (m : Nat → Nat → Bool) (x : Nat) : ∀ a, wsI m x a = wsP m x a
  | 0 => by funext p y; simp [wsI, wsP]
  | a + 1 => by
    rw [show wsI m x (a + 1) = wsA (wsI m x a) x a from rfl, wsI_eq m x a]
    have hx : ∀ y, wsP m x a x y = m x y := fun y => by unfold wsP; cases m x y <;> simp
    have hc : wsP m x a a x = m a x := by unfold wsP; simp
    unfold wsA
    rw [hc]
    funext p y
    by_cases hp : p = a
    · subst hp
      cases hm : m p x
      · simp [wsP, hm]
      · rw [if_pos rfl, updF_same, hx]
        unfold wsP
        simp [hm]
    · have h1 : decide (p < a + 1) = decide (p < a) := by simp; omega
      have : wsP m x (a + 1) p y = wsP m x a p y := by unfold wsP; rw [h1]
      rw [this]
      split
      · rw [updF_other _ _ hp]
      · rfl
theorem wsO_succ {m : Nat → Nat → Bool} {n x a b : Nat} (ha : a < n) : wsO m n (x + 1) a b = (wsO m n x a b || (wsO m n x a x && wsO m n x x b)) := by
  rw [show wsO m n (x + 1) = wsI (wsO m n x) x n from rfl, wsI_eq]
  unfold wsP
  simp [ha]
theorem wsO_in {m : Nat → Nat → Bool} {n : Nat} (hm : ∀ a b, m a b = true → a < n ∧ b < n) : ∀ x a b, wsO m n x a b = true → a < n ∧ b < n
  | 0, a, b, h => hm a b h
  | x + 1, a, b, h => by
    rw [show wsO m n (x + 1) = wsI (wsO m n x) x n from rfl, wsI_eq] at h
    unfold wsP at h
    rcases Bool.or_eq_true_iff.1 h with h | h
    · exact wsO_in hm x a b h
    · rw [Bool.and_eq_true, Bool.and_eq_true] at h
      exact ⟨(wsO_in hm x _ _ h.1.2).1, (wsO_in hm x _ _ h.2).2⟩
theorem wsO_sound {m : Nat → Nat → Bool} {n : Nat} (hm : ∀ a b, m a b = true → a < n ∧ b < n) : ∀ x a b, wsO m n x a b = true → TG m a b
  | 0, a, b, h => .one h
  | x + 1, a, b, h => by
    have ha := (wsO_in hm _ _ _ h).1
    rw [wsO_succ ha, Bool.or_eq_true, Bool.and_eq_true] at h
    rcases h with h | ⟨h1, h2⟩
    · exact wsO_sound hm x a b h
    · exact (wsO_sound hm x _ _ h1).trans (wsO_sound hm x _ _ h2)
theorem wsO_mono {m : Nat → Nat → Bool} {n : Nat} (hm : ∀ a b, m a b = true → a < n ∧ b < n) : ∀ x a b, m a b = true → wsO m n x a b = true
  | 0, a, b, h => h
  | x + 1, a, b, h => by
    rw [wsO_succ (hm _ _ h).1, wsO_mono hm x a b h]; rfl
theorem wsO_trans {m : Nat → Nat → Bool} {n : Nat} (hm : ∀ a b, m a b = true → a < n ∧ b < n) : ∀ x k a b, k < x → wsO m n x a k = true → wsO m n x k b = true → wsO m n x a b = true
  | 0, k, a, b, hk, _, _ => by omega
  | x + 1, k, a, b, hk, h1, h2 => by
    have ih := wsO_trans hm x
    have ha := (wsO_in hm _ _ _ h1).1
    have hkn := (wsO_in hm _ _ _ h2).1
    rw [wsO_succ ha, Bool.or_eq_true, Bool.and_eq_true] at h1 ⊢
    rw [wsO_succ hkn, Bool.or_eq_true, Bool.and_eq_true] at h2
    by_cases hx : k = x
    · subst hx
      have e1 : wsO m n k a k = true := by rcases h1 with h1 | h1; exact h1; exact h1.1
      have e2 : wsO m n k k b = true := by rcases h2 with h2 | h2; exact h2; exact h2.2
      exact .inr ⟨e1, e2⟩
    · have hk' : k < x := by omega
      rcases h1 with h1 | ⟨h1, h1'⟩
      · rcases h2 with h2 | ⟨h2, h2'⟩
        · exact .inl (ih k a b hk' h1 h2)
        · exact .inr ⟨ih k a x hk' h1 h2, h2'⟩
      · rcases h2 with h2 | ⟨h2, h2'⟩
        · exact .inr ⟨h1, ih k x b hk' h1' h2⟩
        · exact .inr ⟨h1, h2'⟩
theorem wsO_tc {m : Nat → Nat → Bool} {n : Nat} (hm : ∀ a b, m a b = true → a < n ∧ b < n) : wsO m n n = tcB m := by
  funext a b
  rw [Bool.eq_iff_iff, tcB_iff]
  constructor
  · exact wsO_sound hm n a b
  · intro h
    induction h with
    | one h => exact wsO_mono hm n _ _ h
    | snoc _ h2 ih => exact wsO_trans hm n _ _ _ (hm _ _ h2).1 ih (wsO_mono hm n _ _ h2)
/-- Is there a round? -/
theorem gd_back {n : Nat} {m : Nat → Nat → Bool} {L : List Nat} (hm : ∀ a b, m a b = true → a < n ∧ b < n) (h : Gd n m L) {y x : Nat} (ht : TG m y x) : x ∈ L → y ∈ L := by
  induction ht with
  | one h1 => exact fun hx => deg_zero.1 (h.dz _ hx) _ (hm _ _ h1).1 h1
  | snoc _ h2 ih => exact fun hx => ih (deg_zero.1 (h.dz _ hx) _ (hm _ _ h2).1 h2)
theorem gr_noround {n : Nat} {m : Nat → Nat → Bool} (hm : ∀ a b, m a b = true → a < n ∧ b < n) : ∀ k x, x ∈ gr n m k → ¬ TG m x x
  | 0, x, hx, _ => by cases hx
  | k + 1, x, hx, ht => by
    cases hn : nx (rdF n m (gr n m k)) with
    | none =>
      rw [gr_none hn 1] at hx
      exact gr_noround hm k x hx ht
    | some e =>
      rw [gr_some hn] at hx
      rcases List.mem_append.1 hx with hx | hx
      · exact gr_noround hm k x hx ht
      · rw [List.mem_singleton] at hx
        subst hx
        obtain ⟨h1, h2, h3⟩ := rdF_iff.1 (nx_some hn).1
        cases ht with
        | one h => exact h2 (deg_zero.1 h3 x h1 h)
        | snoc ht h =>
          have hp := deg_zero.1 h3 _ (hm _ _ h).1 h
          exact h2 (gd_back hm (gr_gd n m k) ht hp)
theorem gd_all {n : Nat} {m : Nat → Nat → Bool} {L : List Nat} (h : Gd n m L) (hl : L.length = n) {x : Nat} (hx : x < n) : x ∈ L := by
  by_cases hc : x ∈ L
  · exact hc
  · have := nodup_len n (L := x :: L) (List.nodup_cons.2 ⟨hc, h.nd⟩) fun y hy => by
      rcases List.mem_cons.1 hy with rfl | hy
      · exact hx
      · exact h.lt y hy
    rw [List.length_cons] at this
    omega
theorem chain_of {n : Nat} {m : Nat → Nat → Bool} {L : List Nat} (hm : ∀ a b, m a b = true → a < n ∧ b < n) (hno : ∀ x, ¬ TG m x x) (hs : ∀ x, x < n → x ∉ L → ∃ p, p < n ∧ p ∉ L ∧ m p x = true) {x0 : Nat} (h0 : x0 < n) (h1 : x0 ∉ L) :
    ∀ k, ∃ h l, (h :: l).length = k + 1 ∧ (h :: l).Nodup ∧ (∀ y, y ∈ h :: l → y < n) ∧ h ∉ L ∧ ∀ y, y ∈ l → TG m h y
  | 0 => ⟨x0, [], rfl, by simp, (fun y hy => by rw [List.mem_singleton.1 hy]; exact h0), h1, (fun y hy => by cases hy)⟩
  | k + 1 => by
    obtain ⟨h, l, hlen, hnd, hlt, hL, ht⟩ := chain_of hm hno hs h0 h1 k
    obtain ⟨p, hp, hpL, hmp⟩ := hs h (hlt h (by simp)) hL
    refine ⟨p, h :: l, by rw [List.length_cons, hlen], List.nodup_cons.2 ⟨fun hc => ?_, hnd⟩, fun y hy => ?_, hpL, fun y hy => ?_⟩
    · rcases List.mem_cons.1 hc with rfl | hc
      · exact hno p (.one hmp)
      · exact hno h (.snoc (ht p hc) hmp)
    · rcases List.mem_cons.1 hy with rfl | hy
      · exact hp
      · exact hlt y hy
    · rcases List.mem_cons.1 hy with rfl | hy
      · exact .one hmp
      · exact (TG.one hmp).trans (ht y hy)
theorem gr_len {n : Nat} {m : Nat → Nat → Bool} (hn : n ≤ 512) (hm : ∀ a b, m a b = true → a < n ∧ b < n) (hno : ∀ x, ¬ TG m x x) : ∀ k, k ≤ n → (gr n m k).length = k
  | 0, _ => rfl
  | k + 1, hk => by
    have ih := gr_len hn hm hno k (by omega)
    cases hx : nx (rdF n m (gr n m k)) with
    | some e => rw [gr_some hx, List.length_append, ih]; rfl
    | none =>
      exfalso
      have hnone := nx_none hx
      have hex : ∃ x, x < n ∧ x ∉ gr n m k := by
        refine Classical.byContradiction fun hc => ?_
        have hall : ∀ x, x < n → x ∈ gr n m k := fun x hxn => Classical.byContradiction fun h => hc ⟨x, hxn, h⟩
        have h1 := List.Nodup.length_le_of_subset (l₁ := List.range n) (l₂ := gr n m k) List.nodup_range fun x hxr => hall x (List.mem_range.1 hxr)
        rw [List.length_range, ih] at h1
        omega
      obtain ⟨x0, h0, h1⟩ := hex
      obtain ⟨h, l, hlen, hnd, hlt, _, _⟩ := chain_of hm hno (L := gr n m k) (fun x hxn hxL => by
        have hf := hnone x (by omega)
        have hd : deg n m (gr n m k) x ≠ 0 := fun hd => by rw [rdF_iff.2 ⟨hxn, hxL, hd⟩] at hf; cases hf
        refine Classical.byContradiction fun hc => hd (deg_zero.2 fun a ha hma => Classical.byContradiction fun h => hc ⟨a, ha, h, hma⟩)) h0 h1 n
      have := nodup_len n hnd hlt
      omega
/-- All are in the order just if nothing leads to itself. -/
theorem acyc_iff {n : Nat} {m : Nat → Nat → Bool} (hn : n ≤ 512) (hm : ∀ a b, m a b = true → a < n ∧ b < n) : (gr n m n).length = n ↔ ∀ x, ¬ TG m x x := by
  constructor
  · intro h x ht
    exact gr_noround hm n x (gd_all (gr_gd n m n) h (ht.lt hm).1) ht
  · exact fun h => gr_len hn hm h n (Nat.le_refl n)
end Go.Proofs.YthmmmbfjhfocfaaDoor
