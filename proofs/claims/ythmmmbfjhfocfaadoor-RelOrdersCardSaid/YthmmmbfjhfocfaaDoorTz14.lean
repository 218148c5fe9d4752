/- Trailing zeros; the lowest element of a word. -/
import Derived.Test.YthmmmbfjhfocfaaDoorRelA14
namespace Go.Proofs.YthmmmbfjhfocfaaDoor
open Go Go.RowKit
set_option linter.unusedVariables false
set_option linter.unusedSimpArgs false
theorem bit_odd (k q i : Nat) : (2 ^ k * (2 * q + 1)).testBit i = if i < k then false else (2 * q + 1).testBit (i - k) := by
  have := Nat.testBit_two_pow_mul_add (2 * q + 1) (b := 0) (i := k) (Nat.two_pow_pos k) i
  rw [Nat.add_zero] at this
  rw [this]
  simp
theorem and_neg {k q : Nat} (hk : k < 64) (hu : 2 ^ k * (2 * q + 1) < 2 ^ 64) : (2 ^ k * (2 * q + 1)) &&& (2 ^ 64 - 2 ^ k * (2 * q + 1)) = 2 ^ k := by
  apply Nat.eq_of_testBit_eq
  intro i
  have hp := Nat.two_pow_pos k
  have h1 : 2 ^ k * (2 * q + 1) = (2 ^ k * (2 * q) + (2 ^ k - 1)) + 1 := by rw [Nat.mul_add, Nat.mul_one]; omega
  have h2 : (2 ^ 64 - 2 ^ k * (2 * q + 1)).testBit i = (decide (i < 64) && !(2 ^ k * (2 * q) + (2 ^ k - 1)).testBit i) := by
    rw [h1]
    exact Nat.testBit_two_pow_sub_succ (by omega) i
  rw [Nat.testBit_and, h2, bit_odd, Nat.testBit_two_pow_mul_add _ (by omega), Nat.testBit_two_pow]
  by_cases hik : i < k
  · rw [if_pos hik]; simp; omega
  · rw [if_neg hik, if_neg hik]
    by_cases he : i = k
    · subst he
      simp [Nat.testBit_zero]; omega
    · obtain ⟨m, hm⟩ : ∃ m, i - k = m + 1 := ⟨i - k - 1, by omega⟩
      rw [hm, Nat.testBit_succ, Nat.testBit_succ, show (2 * q + 1) / 2 = q by omega, show 2 * q / 2 = q by omega]
      have : ¬ k = i := fun h => he h.symm
      cases q.testBit m <;> simp [this]
theorem oddN : ∀ (m v : Nat), v ≠ 0 → v < 2 ^ m → ∃ k q, v = 2 ^ k * (2 * q + 1) ∧ k < m
  | 0, v, h0, h1 => by simp at h1; omega
  | m + 1, v, h0, h1 => by
    by_cases he : v % 2 = 0
    · obtain ⟨k, q, h, hk⟩ := oddN m (v / 2) (by omega) (by rw [Nat.pow_succ] at h1; omega)
      refine ⟨k + 1, q, ?_, by omega⟩
      rw [Nat.pow_succ, Nat.mul_comm (2 ^ k) 2, Nat.mul_assoc, ← h]; omega
    · exact ⟨0, v / 2, by simp; omega, by omega⟩
/-- The lowest bit taken away. -/
theorem and_pred (k q : Nat) : (2 ^ k * (2 * q + 1)) &&& (2 ^ k * (2 * q + 1) - 1) = 2 ^ k * (2 * q) := by
  have hp := Nat.two_pow_pos k
  have h1 : 2 ^ k * (2 * q + 1) - 1 = 2 ^ k * (2 * q) + (2 ^ k - 1) := by rw [Nat.mul_add, Nat.mul_one]; omega
  apply Nat.eq_of_testBit_eq
  intro i
  have h2 := Nat.testBit_two_pow_mul_add (2 * q) (b := 0) (i := k) hp i
  rw [Nat.add_zero] at h2
  rw [Nat.testBit_and, h1, bit_odd, Nat.testBit_two_pow_mul_add _ (by omega), h2]
  by_cases hik : i < k
  · rw [if_pos hik, if_pos hik]; simp; intro h; omega
  · rw [if_neg hik, if_neg hik, if_neg hik]
    by_cases he : i = k
    · subst he; simp [Nat.testBit_zero]
    · obtain ⟨m, hm⟩ : ∃ m, i - k = m + 1 := ⟨i - k - 1, by omega⟩
      rw [hm, Nat.testBit_succ, Nat.testBit_succ, show (2 * q + 1) / 2 = q by omega, show 2 * q / 2 = q by omega]; simp
def tzL : List Int := [0,1,56,2,57,49,28,3,61,58,42,50,38,29,17,4,62,47,59,36,45,43,51,22,53,39,33,30,24,18,12,5,63,55,48,27,60,41,37,16,46,35,44,21,52,32,23,11,54,26,40,15,34,20,31,10,25,14,19,9,13,8,7,6]
/-- What the table of math/bits holds. -/
def TzOk (w : World) : Prop := ∀ i v, tzL[i]? = some v → w.cell? ⟨0, i, none⟩ = some (.int .u8 v)
theorem TzOk.fr {w w' : World} {T : List Nat} (h : TzOk w) (hf : Fr T w w') (ht : 0 ∉ T) : TzOk w' := fun i v hv => by
  have h1 := h i v hv
  rw [World.cell?_of_block (w := w) (hf.block _ ?_ ht)]
  · exact h1
  · obtain ⟨o, ho, _⟩ := cells_of_cell h1
    exact (Array.getElem?_eq_some_iff.1 ho).1
theorem TzOk.below {w w' : World} (h : TzOk w) (hb : Below w.heap.size w w') : TzOk w' := h.fr (Fr.of_below (T := []) hb) (by simp)
def tzI (t : Nat) : Nat := (2 ^ t * 285870213051353865 % 18446744073709551616) / 288230376151711744
theorem tzI_ok (t : Nat) (h : t < 64) : tzI t < 64 ∧ tzL[tzI t]? = some (t : Int) := by
  have h : ∀ k : Fin 64, tzI k.val < 64 ∧ tzL[tzI k.val]? = some (k.val : Int) := by decide +kernel
  exact h ⟨t, by assumption⟩
theorem tz_walk (V Y : Int) (k : Nat) (hk : k < 64) (h0 : V ≠ 0) (hx : IntKind.u64.wrap (bits .and .u64 V (IntKind.u64.wrap (-V)) * 285870213051353865) = Y) (hy0 : 0 ≤ Y / 288230376151711744) (hy1 : Y / 288230376151711744 < 64) (w : World) (hcell : w.cell? ⟨0, (Y / 288230376151711744).toNat, none⟩ = some (.int .u8 k)) : Calls Tryd.prog 44 #[.int .u64 V] w fun e w' => e = .returned (.int .i64 k) ∧ w' = w := by
  go_enter Tryd.func44, Tryd.ntmps44
  go_wp2
  go_ret
  exact ⟨rfl, rfl⟩
theorem tz_ret (k q : Nat) (hk : k < 64) (h1 : 2 ^ k * (2 * q + 1) < 18446744073709551616) (w : World) (hG : TzOk w) : Calls Tryd.prog 44 #[.int .u64 ((2 ^ k * (2 * q + 1) : Nat) : Int)] w fun e w' => e = .returned (.int .i64 k) ∧ w' = w := by
  obtain ⟨v, hv⟩ : ∃ v, 2 ^ k * (2 * q + 1) = v := ⟨_, rfl⟩
  have hp : 0 < v := by rw [← hv]; exact Nat.mul_pos (Nat.two_pow_pos k) (by omega)
  have hand := and_neg (q := q) hk h1
  rw [show (2 : Nat) ^ 64 = 18446744073709551616 from by decide] at hand
  have h0 : v ≠ 0 := by omega
  rw [hv] at h1 hand ⊢
  obtain ⟨i1, i2⟩ := tzI_ok k hk
  have hcell := hG _ _ i2
  have hw : IntKind.u64.wrap (-(v : Int)) = ((18446744073709551616 - v : Nat) : Int) := by rw [IntKind.wrap_u64]; omega
  have hb : bits .and .u64 (v : Int) (IntKind.u64.wrap (-(v : Int))) = ((2 ^ k : Nat) : Int) := by
    rw [hw, u64_and_nat v _ h1 (by omega)]
    rw [hand]
  have h0' : (v : Int) ≠ 0 := by omega
  have hx : IntKind.u64.wrap (bits .and .u64 (v : Int) (IntKind.u64.wrap (-(v : Int))) * 285870213051353865) / 288230376151711744 = ((tzI k : Nat) : Int) := by
    rw [hb, IntKind.wrap_u64]
    unfold tzI
    generalize 2 ^ k = p
    omega
  exact tz_walk v _ k hk h0' rfl (by rw [hx]; omega) (by rw [hx]; omega) w (by rw [hx, Int.toNat_natCast]; exact hcell)
end Go.Proofs.YthmmmbfjhfocfaaDoor
