/- The first place, from one on, where something fails; no word of the program. -/
set_option linter.unusedVariables false
set_option linter.unusedSimpArgs false
namespace Go.Proofs.Ytmaffamhjmlonaa
def skipN (P : Nat -> Bool) : Nat -> Nat -> Nat
 | 0, a => a
 | k + 1, a => bif P a then skipN P k (a + 1) else a
theorem skipN_ge (P : Nat -> Bool) : ∀ k a, a <= skipN P k a
 | 0, a => Nat.le_refl _
 | k + 1, a => by
   show a <= bif P a then skipN P k (a + 1) else a
   cases P a
   . exact Nat.le_refl _
   . exact Nat.le_trans (Nat.le_succ a) (skipN_ge P k (a + 1))
theorem skipN_all (P : Nat -> Bool) : ∀ k a i, a <= i -> i < skipN P k a -> P i = true
 | 0, a, i, h1, h2 => by unfold skipN at h2; omega
 | k + 1, a, i, h1, h2 => by
   cases hp : P a
   . have e : skipN P (k + 1) a = a := by show (bif P a then skipN P k (a + 1) else a) = a; rw [hp]; rfl
     omega
   . have e : skipN P (k + 1) a = skipN P k (a + 1) := by show (bif P a then skipN P k (a + 1) else a) = _; rw [hp]; rfl
     by_cases ha : i = a
     . rw [ha]; exact hp
     . exact skipN_all P k (a + 1) i (by omega) (by omega)
theorem skipN_fin (P : Nat -> Bool) : ∀ k a, P (skipN P k a) = true -> skipN P k a = a + k
 | 0, a, _ => rfl
 | k + 1, a, h => by
   cases hp : P a
   . have e : skipN P (k + 1) a = a := by show (bif P a then skipN P k (a + 1) else a) = a; rw [hp]; rfl
     rw [e, hp] at h; cases h
   . have e : skipN P (k + 1) a = skipN P k (a + 1) := by show (bif P a then skipN P k (a + 1) else a) = _; rw [hp]; rfl
     rw [e] at h ⊢
     have := skipN_fin P k (a + 1) h
     omega
theorem skipN_congr {P Q : Nat -> Bool} (h : ∀ i, P i = Q i) : ∀ k a, skipN P k a = skipN Q k a
 | 0, a => rfl
 | k + 1, a => by
   show (bif P a then skipN P k (a + 1) else a) = bif Q a then skipN Q k (a + 1) else a
   rw [h a, skipN_congr h k (a + 1)]
theorem skipN_le (P : Nat -> Bool) : ∀ k a, skipN P k a <= a + k
 | 0, a => Nat.le_refl _
 | k + 1, a => by
   show (bif P a then skipN P k (a + 1) else a) <= a + (k + 1)
   cases P a
   . show a <= a + (k + 1); omega
   . have := skipN_le P k (a + 1)
     show skipN P k (a + 1) <= a + (k + 1); omega
theorem skipN_end_iff {P : Nat -> Bool} {k a : Nat} : skipN P k a = a + k ↔ ∀ i, a <= i -> i < a + k -> P i = true := by
 have g1 := skipN_ge P k a
 have g2 := skipN_all P k a
 have g3 := skipN_fin P k a
 have g4 := skipN_le P k a
 constructor
 . intro h i h1 h2; exact g2 i h1 (by omega)
 . intro h
   by_cases hy : skipN P k a < a + k
   . exact g3 (h _ g1 hy)
   . omega
theorem skipN_hit {P : Nat -> Bool} {k a : Nat} (h : skipN P k a < a + k) : P (skipN P k a) = false := by
 cases hp : P (skipN P k a)
 . rfl
 . have := skipN_fin P k a hp; omega
end Go.Proofs.Ytmaffamhjmlonaa
