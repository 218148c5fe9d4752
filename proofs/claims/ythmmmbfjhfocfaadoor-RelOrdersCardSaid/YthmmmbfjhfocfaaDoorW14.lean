/- Sets of numbers below 512 as eight words. No word of the program. -/
import Derived.Test.YthmmmbfjhfocfaaDoorHp14
namespace Go.Proofs.YthmmmbfjhfocfaaDoor
open Go Go.RowKit
set_option linter.unusedVariables false
set_option linter.unusedSimpArgs false

def wdN (g : Nat → Bool) : Nat → Nat
  | 0 => 0
  | k + 1 => wdN g k + (if g k = true then 2 ^ k else 0)
theorem wdN_lt (g : Nat → Bool) : ∀ k, wdN g k < 2 ^ k
  | 0 => by simp [wdN]
  | k + 1 => by
    have := wdN_lt g k
    unfold wdN
    rw [Nat.pow_succ]
    split <;> omega
theorem wdN_bit (g : Nat → Bool) : ∀ k j, (wdN g k).testBit j = (decide (j < k) && g j)
  | 0, j => by simp [wdN]
  | k + 1, j => by
    have hlt := wdN_lt g k
    have ih := wdN_bit g k j
    unfold wdN
    by_cases hk : g k = true
    · have hor : wdN g k + 2 ^ k = 2 ^ k ||| wdN g k := by
        have := Nat.two_pow_add_eq_or_of_lt hlt 1
        simp at this
        omega
      rw [if_pos hk, hor, Nat.testBit_or, ih, Nat.testBit_two_pow]
      by_cases hj : j = k
      · subst hj; simp [hk]
      · have e1 : decide (k = j) = false := decide_eq_false (fun h => hj h.symm)
        have e2 : decide (j < k + 1) = decide (j < k) := by
          by_cases h : j < k
          · rw [decide_eq_true h, decide_eq_true (by omega)]
          · rw [decide_eq_false h, decide_eq_false (by omega)]
        rw [e1, e2]; simp
    · rw [if_neg hk, Nat.add_zero, ih]
      by_cases hj : j = k
      · subst hj; simp [hk]
      · have e2 : decide (j < k + 1) = decide (j < k) := by
          by_cases h : j < k
          · rw [decide_eq_true h, decide_eq_true (by omega)]
          · rw [decide_eq_false h, decide_eq_false (by omega)]
        rw [e2]
/-- Word i of the set f. -/
def wd (f : Nat → Bool) (i : Nat) : Nat := wdN (fun j => f (64 * i + j)) 64
theorem wd_lt (f : Nat → Bool) (i : Nat) : wd f i < 18446744073709551616 := wdN_lt _ 64
theorem wd_bit (f : Nat → Bool) (i j : Nat) (h : j < 64) : (wd f i).testBit j = f (64 * i + j) := by
  unfold wd; rw [wdN_bit]; simp [h]
theorem wd_ext {f : Nat → Bool} {i x : Nat} (hx : x < 18446744073709551616) (h : ∀ j, j < 64 → x.testBit j = f (64 * i + j)) : x = wd f i := by
  refine Nat.eq_of_testBit_eq fun j => ?_
  by_cases hj : j < 64
  · rw [h j hj, wd_bit f i j hj]
  · have hp : (2 : Nat) ^ 64 ≤ 2 ^ j := Nat.pow_le_pow_right (by decide) (by omega)
    have e : (2 : Nat) ^ 64 = 18446744073709551616 := rfl
    rw [Nat.testBit_lt_two_pow (by omega), Nat.testBit_lt_two_pow (by have := wd_lt f i; omega)]
theorem wd_congr {f g : Nat → Bool} {i : Nat} (h : ∀ j, j < 64 → f (64 * i + j) = g (64 * i + j)) : wd f i = wd g i :=
  wd_ext (wd_lt f i) fun j hj => by rw [wd_bit f i j hj, h j hj]
theorem pow64_lt {k : Nat} (h : k < 64) : 2 ^ k < 18446744073709551616 := Nat.lt_of_lt_of_le (Nat.pow_lt_pow_right (by decide) h) (Nat.le_refl _)
theorem wrap_pow64 {k : Nat} (h : k < 64) : IntKind.u64.wrap (2 ^ k) = ((2 ^ k : Nat) : Int) := by
  have := pow64_lt h
  have e : ((2 : Int) ^ k) = ((2 ^ k : Nat) : Int) := by simp
  rw [e, IntKind.wrap_u64]
  generalize (2 : Nat) ^ k = p at this ⊢
  omega
theorem wd_add {f : Nat → Bool} {e : Nat} : wd f (e / 64) ||| 2 ^ (e % 64) = wd (fun x => x == e || f x) (e / 64) := by
  have h1 := wd_lt f (e / 64)
  have h2 := pow64_lt (Nat.mod_lt e (by decide : 0 < 64))
  refine wd_ext (Nat.or_lt_two_pow (n := 64) h1 h2) fun j hj => ?_
  rw [Nat.testBit_or, wd_bit _ _ _ hj, Nat.testBit_two_pow]
  by_cases hk : e % 64 = j
  · rw [decide_eq_true hk, show (64 * (e / 64) + j == e) = true from by simp; omega]; simp
  · rw [decide_eq_false hk, show (64 * (e / 64) + j == e) = false from by simp; omega]; simp
theorem wd_add_other {f : Nat → Bool} {e i : Nat} (h : i ≠ e / 64) : wd (fun x => x == e || f x) i = wd f i :=
  wd_congr fun j hj => by rw [show (64 * i + j == e) = false from by simp; omega]; rfl
theorem wd_del {f : Nat → Bool} {e : Nat} : wd f (e / 64) &&& (18446744073709551615 - 2 ^ (e % 64)) = wd (fun x => !(x == e) && f x) (e / 64) := by
  have h1 := wd_lt f (e / 64)
  have h2 := pow64_lt (Nat.mod_lt e (by decide : 0 < 64))
  refine wd_ext (Nat.lt_of_le_of_lt Nat.and_le_left h1) fun j hj => ?_
  have e1 : 18446744073709551615 - 2 ^ (e % 64) = 2 ^ 64 - (2 ^ (e % 64) + 1) := by
    have : (2 : Nat) ^ 64 = 18446744073709551616 := rfl
    omega
  rw [Nat.testBit_and, wd_bit _ _ _ hj, e1, Nat.testBit_two_pow_sub_succ (by have : (2 : Nat) ^ 64 = 18446744073709551616 := rfl; omega), Nat.testBit_two_pow, decide_eq_true hj]
  by_cases hk : e % 64 = j
  · rw [decide_eq_true hk, show (64 * (e / 64) + j == e) = true from by simp; omega]; simp
  · rw [decide_eq_false hk, show (64 * (e / 64) + j == e) = false from by simp; omega]; simp
theorem wd_del_other {f : Nat → Bool} {e i : Nat} (h : i ≠ e / 64) : wd (fun x => !(x == e) && f x) i = wd f i :=
  wd_congr fun j hj => by rw [show (64 * i + j == e) = false from by simp; omega]; rfl
theorem wd_or (f g : Nat → Bool) (i : Nat) : wd f i ||| wd g i = wd (fun x => f x || g x) i :=
  wd_ext (Nat.or_lt_two_pow (n := 64) (wd_lt f i) (wd_lt g i)) fun j hj => by rw [Nat.testBit_or, wd_bit _ _ _ hj, wd_bit _ _ _ hj]
theorem wd_and (f g : Nat → Bool) (i : Nat) : wd f i &&& wd g i = wd (fun x => f x && g x) i :=
  wd_ext (Nat.lt_of_le_of_lt Nat.and_le_left (wd_lt f i)) fun j hj => by rw [Nat.testBit_and, wd_bit _ _ _ hj, wd_bit _ _ _ hj]
theorem wd_has (f : Nat → Bool) (e : Nat) : ((((wd f (e / 64) : Nat) : Int) / 2 ^ (e % 64)).tmod 2 == 1) = f e := by
  have h := wd_bit f (e / 64) (e % 64) (Nat.mod_lt e (by decide))
  rw [show 64 * (e / 64) + e % 64 = e from Nat.div_add_mod e 64] at h
  rw [← h, Nat.testBit_eq_decide_div_mod_eq]
  have : ((wd f (e / 64) : Nat) : Int) / 2 ^ (e % 64) = ((wd f (e / 64) / 2 ^ (e % 64) : Nat) : Int) := by simp
  rw [this, Int.tmod_eq_emod_of_nonneg (Int.natCast_nonneg _)]
  by_cases hb : wd f (e / 64) / 2 ^ (e % 64) % 2 = 1
  · rw [decide_eq_true hb]; simp; omega
  · rw [decide_eq_false hb]; simp; omega
abbrev u64V (x : Nat) : Value := .int .u64 (x : Int)
/-- The cells F with the set g at o. -/
def setF (F : Nat → Value) (o : Nat) (g : Nat → Bool) : Nat → Value := fun k => if o ≤ k ∧ k < o + 8 then u64V (wd g (k - o)) else F k
/-- At o the cells F hold the set f. -/
def SetIn (F : Nat → Value) (o : Nat) (f : Nat → Bool) : Prop := ∀ i, i < 8 → F (o + i) = u64V (wd f i)
theorem setF_in (F : Nat → Value) (o : Nat) (g : Nat → Bool) : SetIn (setF F o g) o g := fun i hi => by
  unfold setF; rw [if_pos ⟨by omega, by omega⟩, Nat.add_sub_cancel_left]
theorem setF_out {F : Nat → Value} {o : Nat} {g : Nat → Bool} {k : Nat} (h : k < o ∨ o + 8 ≤ k) : setF F o g k = F k := by
  unfold setF; rw [if_neg (by omega)]
end Go.Proofs.YthmmmbfjhfocfaaDoor
