/- Shifts, products and quotients of layer 7: what the program reckons and what the definition reckons are the same numbers. -/
import Derived.Test.YtpmjfpdogbcigaaDoorAlu07
namespace Go.Proofs.YtpmjfpdogbcigaaDoor
open Go.RowKit Sim S2
set_option linter.unusedVariables false
set_option linter.unusedSimpArgs false

theorem and_i64 (n : Int) (k : Nat) (hk : k ≤ 62) : bits .and .i64 n ((2 ^ k - 1 : Nat) : Int) = n % ((2 ^ k : Nat) : Int) := by
  have hp : 2 ^ k ≤ 2 ^ 62 := Nat.pow_le_pow_right (by omega) hk
  have h0 : 0 < 2 ^ k := Nat.two_pow_pos k
  have h62 : (2 : Nat) ^ 62 = 4611686018427387904 := by decide
  have hm : (BitVec.ofInt 64 ((2 ^ k - 1 : Nat) : Int)).toNat = 2 ^ k - 1 := by
    rw [BitVec.ofInt_natCast, BitVec.toNat_ofNat, Nat.mod_eq_of_lt (by omega)]
  show IntKind.i64.wrap ((BitVec.ofInt 64 n &&& BitVec.ofInt 64 ((2 ^ k - 1 : Nat) : Int)).toNat : Nat) = _
  rw [BitVec.toNat_and, hm, Nat.and_two_pow_sub_one_eq_mod, BitVec.toNat_ofInt, IntKind.wrap_i64]
  have hd : ((2 ^ k : Nat) : Int) ∣ 18446744073709551616 := ⟨((2 ^ (64 - k) : Nat) : Int), by
    have : 2 ^ k * 2 ^ (64 - k) = 18446744073709551616 := by rw [← Nat.pow_add, show k + (64 - k) = 64 by omega]
    rw [← Int.natCast_mul, this]; rfl⟩
  have e1 : (((n % ((2 ^ 64 : Nat) : Int)).toNat % 2 ^ k : Nat) : Int) = n % ((2 ^ k : Nat) : Int) := by
    rw [Int.natCast_emod, Int.toNat_of_nonneg (Int.emod_nonneg _ (by decide))]
    exact Int.emod_emod_of_dvd n hd
  rw [e1]
  have h3 := Int.emod_nonneg n (show ((2 ^ k : Nat) : Int) ≠ 0 by omega)
  have h4 := Int.emod_lt_of_pos n (show (0 : Int) < ((2 ^ k : Nat) : Int) by omega)
  omega
theorem and63 (b : Int) : arZ .and .i64 b 63 = ((b % 64).toNat : Int) := by
  rw [arZ_eq]
  exact (and_i64 b 6 (by omega)).trans (by show b % 64 = _; omega)
theorem and31 (b : Int) : arZ .and .i64 b 31 = ((b % 32).toNat : Int) := by
  rw [arZ_eq]
  exact (and_i64 b 5 (by omega)).trans (by show b % 32 = _; omega)
theorem rem_w (b : Int) (c : Nat) (hc : c = 64 ∨ c = 32) : IntKind.i64.wrap (arZ .rem .u64 (IntKind.u64.wrap b) c) = ((b % c).toNat : Int) := by
  rw [remU (wrapU_rng b).1 (by omega), wrapI, wrapU]
  unfold wrap64
  rcases hc with rfl | rfl <;> omega
theorem shl_n (a : Int) (n : Nat) (hn : n ≤ 64) : arZ .shl .i64 a n = wrap64 (a * 2 ^ n) := by
  rw [arZ_eq]
  show IntKind.i64.wrap (a * 2 ^ (min (n : Int).toNat 64)) = _
  rw [Int.toNat_natCast, Nat.min_eq_left hn, wrapI]
theorem shr_i (a : Int) (n : Nat) (hn : n ≤ 64) : arZ .shr .i64 a n = a / 2 ^ n := by
  rw [arZ_eq]
  show a.fdiv (2 ^ (min (n : Int).toNat 64)) = _
  rw [Int.toNat_natCast, Nat.min_eq_left hn, Int.fdiv_eq_ediv_of_nonneg _ (Int.pow_nonneg (by omega))]
theorem shr_u (a : Int) (n : Nat) (hn : n ≤ 64) : arZ .shr .u64 a n = a / 2 ^ n := by
  rw [arZ_eq]
  show a.fdiv (2 ^ (min (n : Int).toNat 64)) = _
  rw [Int.toNat_natCast, Nat.min_eq_left hn, Int.fdiv_eq_ediv_of_nonneg _ (Int.pow_nonneg (by omega))]
/-! ### Bit by bit -/
theorem mv_cut (u n : Nat) (up : Bool) (x w : Nat) (hw : w ≤ 64) : sumB (mvB u n up x w) 64 = sumB (fun i => if up = true then (if n ≤ i then bitN u (i - n) else x) else (if i + n < w then bitN u (i + n) else x)) w := by
  have h : ∀ k, sumB (mvB u n up x w) (w + k) = sumB (fun i => if up = true then (if n ≤ i then bitN u (i - n) else x) else (if i + n < w then bitN u (i + n) else x)) w := by
    intro k
    induction k with
    | zero => exact sum_congr w fun i hi => by unfold mvB; rw [if_pos hi]
    | succ k ih =>
      rw [← Nat.add_assoc, sumB_succ, ih]
      have : mvB u n up x w (w + k) = 0 := by unfold mvB; rw [if_neg (by omega)]
      rw [this]; simp
  have := h (64 - w)
  rwa [show w + (64 - w) = 64 by omega] at this
theorem mv_up (u n w : Nat) (hn : n ≤ w) (hw : w ≤ 64) : sumB (mvB u n true 0 w) 64 = u * 2 ^ n % 2 ^ w := by
  rw [mv_cut u n true 0 w hw]
  have h := sum_up u n (w - n)
  rw [show n + (w - n) = w by omega] at h
  have e : 2 ^ w = 2 ^ (w - n) * 2 ^ n := by rw [← Nat.pow_add, show w - n + n = w by omega]
  rw [e, Nat.mul_mod_mul_right]
  exact h
theorem mv_down (u n x w : Nat) (hn : n ≤ w) (hw : w ≤ 64) : sumB (mvB u n false x w) 64 = u % 2 ^ w / 2 ^ n + x * (2 ^ w - 2 ^ (w - n)) := by
  rw [mv_cut u n false x w hw]
  have h := sum_fill u n w x hn n
  rw [show w - n + n = w by omega] at h
  have e : 2 ^ w = 2 ^ n * 2 ^ (w - n) := by rw [← Nat.pow_add, show n + (w - n) = w by omega]
  rw [e, Nat.mod_mul_right_div_self, ← e]
  exact h
theorem wrap64_cong {x y : Int} (h : ∃ k, x = y + 18446744073709551616 * k) : wrap64 x = wrap64 y := by obtain ⟨k, rfl⟩ := h; unfold wrap64; omega
theorem wrap32_cong {x y : Int} (h : ∃ k, x = y + 4294967296 * k) : wrap32 x = wrap32 y := by obtain ⟨k, rfl⟩ := h; unfold wrap32; omega
theorem wrap32_wrap64 (x : Int) : wrap32 (wrap64 x) = wrap32 x := by unfold wrap32 wrap64; omega
theorem u64N_off (a : Int) : ∃ k, ((u64N a : Nat) : Int) = a + 18446744073709551616 * k := ⟨-(a / 18446744073709551616), by unfold u64N; omega⟩
theorem mod_off (m c : Nat) : ∃ k : Int, ((m % c : Nat) : Int) = (m : Int) + (c : Int) * k := ⟨-((m / c : Nat) : Int), by
  have := Nat.div_add_mod m c
  have h : ((c * (m / c) + m % c : Nat) : Int) = (m : Int) := by rw [this]
  push_cast at h
  rw [Int.mul_neg]
  push_cast
  omega⟩
theorem shift_up64 (a : Int) (n : Nat) (hn : n < 64) : arZ .shl .i64 a n = i64N (sumB (mvB (u64N a) n true 0 64) 64) := by
  rw [shl_n a n (by omega), mv_up _ n 64 (by omega) (by omega), i64N]
  obtain ⟨k, hk⟩ := u64N_off a
  obtain ⟨j, hj⟩ := mod_off (u64N a * 2 ^ n) (2 ^ 64)
  have h64 : ((2 ^ 64 : Nat) : Int) = 18446744073709551616 := rfl
  rw [hj, h64, Int.natCast_mul, hk, Int.natCast_pow]
  refine (wrap64_cong ⟨k * 2 ^ n + j, ?_⟩).symm
  show (a + 18446744073709551616 * k) * 2 ^ n + 18446744073709551616 * j = _
  grind
theorem shift_up32 (a : Int) (n : Nat) (hn : n < 32) : wrap32 (arZ .shl .i64 a n) = wrap32 (i64N (sumB (mvB (u64N a) n true 0 32) 64)) := by
  rw [shl_n a n (by omega), mv_up _ n 32 (by omega) (by omega), i64N, wrap32_wrap64, wrap32_wrap64]
  obtain ⟨k, hk⟩ := u64N_off a
  obtain ⟨j, hj⟩ := mod_off (u64N a * 2 ^ n) (2 ^ 32)
  have h32 : ((2 ^ 32 : Nat) : Int) = 4294967296 := rfl
  rw [hj, h32, Int.natCast_mul, hk, Int.natCast_pow]
  refine (wrap32_cong ⟨4294967296 * (k * 2 ^ n) + j, ?_⟩).symm
  show (a + 18446744073709551616 * k) * 2 ^ n + 4294967296 * j = _
  grind
theorem shift_fill (u n w s : Nat) (hn : n ≤ w) : ∃ p q : Nat, 2 ^ n = p ∧ 2 ^ (w - n) = q ∧ p * q = 2 ^ w ∧ 0 < p ∧ 0 < q ∧ q ≤ 2 ^ w :=
  ⟨_, _, rfl, rfl, by rw [← Nat.pow_add, show n + (w - n) = w by omega], Nat.two_pow_pos _, Nat.two_pow_pos _, Nat.pow_le_pow_right (by omega) (by omega)⟩
theorem shift_down64 (a : Int) (n : Nat) (hn : n < 64) : wrap64 (IntKind.u64.wrap a / 2 ^ n) = i64N (sumB (mvB (u64N a) n false 0 64) 64) := by
  rw [mv_down _ n 0 64 (by omega) (by omega), i64N, u64N_eq, Nat.mod_eq_of_lt (u64N_lt a)]
  simp
theorem shift_sign64 (a : Int) (h0 : -9223372036854775808 ≤ a ∧ a ≤ 9223372036854775807) (n : Nat) (hn : n < 64) : a / 2 ^ n = i64N (sumB (mvB (u64N a) n false (bitN (u64N a) 63) 64) 64) := by
  rw [mv_down _ n _ 64 (by omega) (by omega), i64N, Nat.mod_eq_of_lt (u64N_lt a)]
  obtain ⟨p, q, hp, hq, hpq, p0, q0, hq1⟩ := shift_fill (u64N a) n 64 0 (by omega)
  have h64 : (2 : Nat) ^ 64 = 18446744073709551616 := by decide
  have hpi : (2 : Int) ^ n = (p : Int) := by rw [← hp]; push_cast; rfl
  rw [hp, hq, hpi]
  rw [h64] at hpq hq1 ⊢
  have hd : a / (p : Int) ≤ 9223372036854775807 ∧ -9223372036854775808 ≤ a / (p : Int) := by
    constructor
    · rcases Int.lt_or_le a 0 with h | h
      · have := Int.ediv_neg_of_neg_of_pos h (show (0 : Int) < p by omega); omega
      · have := Int.ediv_le_self (p : Int) h; omega
    · refine (Int.le_ediv_iff_mul_le (by omega)).2 ?_
      have : (p : Int) ≥ 1 := by omega
      have h2 : (-9223372036854775808 : Int) * p ≤ -9223372036854775808 := by omega
      omega
  by_cases hs : 0 ≤ a
  · have hu : u64N a = a.toNat := by unfold u64N; omega
    have hb : bitN (u64N a) 63 = 0 := by
      unfold bitN
      rw [show (2 : Nat) ^ 63 = 9223372036854775808 by decide]; omega
    rw [hb, Nat.zero_mul, Nat.add_zero, hu]
    have : ((a.toNat / p : Nat) : Int) = a / p := by rw [Int.natCast_ediv, Int.toNat_of_nonneg hs]
    rw [this]
    exact (wrap64_in hd.2 hd.1).symm
  · have hu : ((u64N a : Nat) : Int) = a + 18446744073709551616 := by unfold u64N; omega
    have hb : bitN (u64N a) 63 = 1 := by
      unfold bitN
      rw [show (2 : Nat) ^ 63 = 9223372036854775808 by decide]; omega
    rw [hb, Nat.one_mul]
    have e : ((u64N a / p : Nat) : Int) = a / p + q := by
      rw [Int.natCast_ediv, hu]
      have : (18446744073709551616 : Int) = (q : Int) * p := by rw [← Int.natCast_mul, Nat.mul_comm, hpq]; rfl
      rw [this, Int.add_mul_ediv_right _ _ (by omega)]
    have e2 : ((u64N a / p + (18446744073709551616 - q) : Nat) : Int) = a / p + 18446744073709551616 * 1 := by
      rw [Int.natCast_add, e, Int.ofNat_sub hq1]; omega
    rw [e2]
    exact ((wrap64_cong ⟨1, rfl⟩).trans (wrap64_in hd.2 hd.1)).symm
theorem low_a (a : Int) : u64N a % 2 ^ 32 = (a % 4294967296).toNat := by unfold u64N; rw [show (2 : Nat) ^ 32 = 4294967296 by decide]; omega
theorem shift_down32 (a : Int) (n : Nat) (hn : n < 32) : wrap32 (a % 4294967296 / 2 ^ n) = wrap32 (i64N (sumB (mvB (u64N a) n false 0 32) 64)) := by
  rw [mv_down _ n 0 32 (by omega) (by omega), i64N, low_a, wrap32_wrap64, Nat.zero_mul, Nat.add_zero, Int.natCast_ediv, Int.natCast_pow, Int.toNat_of_nonneg (by omega)]
  rfl
theorem shift_sign32 (a : Int) (n : Nat) (hn : n < 32) : wrap32 (wrap32 a / 2 ^ n) = wrap32 (i64N (sumB (mvB (u64N a) n false (bitN (u64N a) 31) 32) 64)) := by
  rw [mv_down _ n _ 32 (by omega) (by omega), i64N, low_a, wrap32_wrap64]
  obtain ⟨p, q, hp, hq, hpq, p0, q0, hq1⟩ := shift_fill (u64N a) n 32 0 (by omega)
  have h32 : (2 : Nat) ^ 32 = 4294967296 := by decide
  have hpi : (2 : Int) ^ n = (p : Int) := by rw [← hp]; push_cast; rfl
  rw [hp, hq, hpi]
  rw [h32] at hpq hq1 ⊢
  have hb : bitN (u64N a) 31 = (a % 4294967296).toNat / 2147483648 := by
    unfold bitN u64N
    rw [show (2 : Nat) ^ 31 = 2147483648 by decide]; omega
  by_cases hs : (a % 4294967296).toNat < 2147483648
  · have h1 : bitN (u64N a) 31 = 0 := by omega
    have h2 : wrap32 a = ((a % 4294967296).toNat : Int) := by unfold wrap32; omega
    rw [h1, h2, Nat.zero_mul, Nat.add_zero, Int.natCast_ediv]
  · have h1 : bitN (u64N a) 31 = 1 := by omega
    have h2 : wrap32 a = ((a % 4294967296).toNat : Int) - 4294967296 := by unfold wrap32; omega
    have h3 : (4294967296 : Int) = (q : Int) * p := by rw [← Int.natCast_mul, Nat.mul_comm, hpq]; rfl
    have h4 : (((a % 4294967296).toNat : Int) - 4294967296) / p = ((a % 4294967296).toNat : Int) / p - q := by
      have := Int.add_mul_ediv_right ((a % 4294967296).toNat : Int) (-q) (show (p : Int) ≠ 0 by omega)
      rw [Int.neg_mul, ← h3] at this
      rw [← Int.sub_eq_add_neg] at this
      rw [this]; omega
    rw [h1, h2, h4, Nat.one_mul, Int.natCast_add, Int.natCast_ediv, Int.ofNat_sub hq1]
    exact wrap32_cong ⟨-1, by omega⟩
end Go.Proofs.YtpmjfpdogbcigaaDoor
