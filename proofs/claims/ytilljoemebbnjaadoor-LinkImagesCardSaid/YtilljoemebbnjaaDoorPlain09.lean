/- Numbers in parts (layer 9): low bits, what stands above them, trailing zeros. No word of the program. -/
import Derived.Test.YtilljoemebbnjaaDoorS2I
import Derived.Test.YtilljoemebbnjaaDoorK03
import Derived.Test.YtilljoemebbnjaaDoorPlain03
set_option linter.unusedVariables false
set_option linter.unusedSimpArgs false
namespace Go.Proofs.YtilljoemebbnjaaDoor
open Go.RowKit Sim S2
def lowF (v : Int) (n : Nat) : Int := (v + 2 ^ (n - 1)) % 2 ^ n - 2 ^ (n - 1)
theorem lowZ_ex : ∃ f : Int -> Int -> Int, ∀ v n, f v n = lowF v n.toNat := ⟨_, fun _ _ => rfl⟩
noncomputable def lowZ : Int -> Int -> Int := Classical.choose lowZ_ex
theorem lowZ_eq (v n : Int) : lowZ v n = lowF v n.toNat := Classical.choose_spec lowZ_ex v n
theorem low12 (v : Int) : lowZ v 12 = (v + 2048) % 4096 - 2048 := by rw [lowZ_eq]; rfl
theorem low20 (v : Int) : lowZ v 20 = (v + 524288) % 1048576 - 524288 := by rw [lowZ_eq]; rfl
theorem wrap_i64 (x : Int) : IntKind.i64.wrap x = (x + 9223372036854775808) % 18446744073709551616 - 9223372036854775808 := by
 unfold IntKind.wrap; simp [IntKind.bits, IntKind.signed]; split <;> omega
theorem wrap_i32 (x : Int) : IntKind.i32.wrap x = (x + 2147483648) % 4294967296 - 2147483648 := by
 unfold IntKind.wrap; simp [IntKind.bits, IntKind.signed]; split <;> omega
theorem wrap_u32 (x : Int) : IntKind.u32.wrap x = x % 4294967296 := by
 unfold IntKind.wrap; simp [IntKind.bits, IntKind.signed]
theorem low_prog12 (v : Int) : IntKind.i64.wrap (arZ .shr .i32 (IntKind.i32.wrap (arZ .shl .u32 (IntKind.u32.wrap v) 20)) 20) = lowZ v 12 := by
 rw [low12, arZ_eq, arZ_eq]
 have e1 : arF .shl .u32 (IntKind.u32.wrap v) 20 = IntKind.u32.wrap (IntKind.u32.wrap v * 1048576) := rfl
 have e2 : ∀ x, arF .shr .i32 x 20 = x / 1048576 := fun x => by show x.fdiv 1048576 = _; exact Int.fdiv_eq_ediv_of_nonneg _ (by decide)
 rw [e1, e2, wrap_i64, wrap_i32, wrap_u32, wrap_u32]
 omega
theorem low_prog20 (v : Int) : IntKind.i64.wrap (arZ .shr .i32 (IntKind.i32.wrap (arZ .shl .u32 (IntKind.u32.wrap v) 12)) 12) = lowZ v 20 := by
 rw [low20, arZ_eq, arZ_eq]
 have e1 : arF .shl .u32 (IntKind.u32.wrap v) 12 = IntKind.u32.wrap (IntKind.u32.wrap v * 4096) := rfl
 have e2 : ∀ x, arF .shr .i32 x 12 = x / 4096 := fun x => by show x.fdiv 4096 = _; exact Int.fdiv_eq_ediv_of_nonneg _ (by decide)
 rw [e1, e2, wrap_i64, wrap_i32, wrap_u32, wrap_u32]
 omega
theorem low_wrap12 (v : Int) : lowZ (IntKind.u64.wrap v) 12 = lowZ v 12 := by rw [low12, low12, IntKind.wrap_u64]; omega
theorem low_wrap20 (v : Int) : lowZ (IntKind.u64.wrap v) 20 = lowZ v 20 := by rw [low20, low20, IntKind.wrap_u64]; omega
theorem sign12 (v : Nat) : signN v 12 = lowZ v 12 := by
 rw [low12]; unfold signN bitN
 simp only [show (12 : Nat) - 1 = 11 from rfl, show (2 : Nat) ^ 11 = 2048 from rfl, show (2 : Int) ^ 11 = 2048 from rfl]
 omega
theorem sign20 (v : Nat) : signN v 20 = lowZ v 20 := by
 rw [low20]; unfold signN bitN
 simp only [show (20 : Nat) - 1 = 19 from rfl, show (2 : Nat) ^ 19 = 524288 from rfl, show (2 : Int) ^ 19 = 524288 from rfl]
 omega
theorem fit_iff (x : Int) (m : Nat) (h1 : 1 <= m) (h2 : m <= 64) : fitZ x m = true ↔ -((2 ^ (m - 1) : Nat) : Int) <= x /\ x < ((2 ^ (m - 1) : Nat) : Int) := by
 unfold fitZ
 rw [if_pos ⟨by omega, by omega⟩, qN]
 have := fitsB_iff x m
 simpa using this
theorem fit12 (x : Int) : fitZ x 12 = true ↔ -2048 <= x /\ x < 2048 := fit_iff x 12 (by decide) (by decide)
theorem fit32 (x : Int) : fitZ x 32 = true ↔ -2147483648 <= x /\ x < 2147483648 := fit_iff x 32 (by decide) (by decide)
def isI (x : Int) : Prop := -9223372036854775808 <= x /\ x <= 9223372036854775807
theorem wrap_self {x : Int} (h : isI x) : IntKind.i64.wrap x = x := by unfold isI at h; rw [wrap_i64]; omega
noncomputable def hiZ (n : Int) : Int := arZ .shr .i64 (arZ .sub .i64 n (lowZ n 12)) 12
theorem ar_sub (a b : Int) : arZ .sub .i64 a b = IntKind.i64.wrap (a - b) := by rw [arZ_eq]; rfl
theorem ar_add (a b : Int) : arZ .add .i64 a b = IntKind.i64.wrap (a + b) := by rw [arZ_eq]; rfl
theorem ar_shr12 (a : Int) : arZ .shr .i64 a 12 = a / 4096 := by rw [arZ_eq]; show a.fdiv 4096 = _; exact Int.fdiv_eq_ediv_of_nonneg _ (by decide)
theorem hi_parts (n : Int) : 4096 * hiZ n = IntKind.i64.wrap (n - lowZ n 12) /\ -2251799813685248 <= hiZ n /\ hiZ n <= 2251799813685247 /\ (n - lowZ n 12) % 4096 = 0 /\ -2048 <= lowZ n 12 /\ lowZ n 12 <= 2047 := by
 unfold hiZ
 rw [ar_shr12, ar_sub, low12, wrap_i64]
 omega
theorem quo2 {x : Int} (h : isI x) : arZ .quo .i64 (2 * x) 2 = x := by
 rw [arZ_eq]
 show IntKind.i64.wrap ((2 * x).tdiv 2) = x
 rw [Int.mul_tdiv_cancel_left _ (by decide), wrap_self h]
noncomputable def halvZ (x : Int) : Nat -> Int
 | 0 => x
 | j + 1 => arZ .quo .i64 (halvZ x j) 2
theorem halv_pow : ∀ (k j : Nat) (o : Int), j <= k -> isI (2 ^ k * o) -> halvZ (2 ^ k * o) j = 2 ^ (k - j) * o
 | k, 0, o, _, _ => rfl
 | k, j + 1, o, hj, hi => by
   have ih := halv_pow k j o (by omega) hi
   show arZ .quo .i64 (halvZ (2 ^ k * o) j) 2 = _
   rw [ih]
   have e : (2 : Int) ^ (k - j) * o = 2 * (2 ^ (k - (j + 1)) * o) := by
     rw [show k - j = (k - (j + 1)) + 1 by omega, Int.pow_succ, Int.mul_assoc, Int.mul_left_comm]
   rw [e]
   refine quo2 ?_
   have e2 : (2 : Int) ^ k * o = 2 ^ (j + 1) * (2 ^ (k - (j + 1)) * o) := by rw [<- Int.mul_assoc, <- Int.pow_add, show j + 1 + (k - (j + 1)) = k by omega]
   rw [e2] at hi
   generalize (2 : Int) ^ (k - (j + 1)) * o = y at hi ⊢
   have hp0 : (0 : Int) < 2 ^ (j + 1) := Int.pow_pos (by decide)
   have hp : (1 : Int) <= 2 ^ (j + 1) := hp0
   unfold isI at hi ⊢
   constructor
   . by_cases hy : y < 0
     . have := Int.mul_le_mul_of_nonpos_right hp (show y <= 0 by omega); omega
     . omega
   . by_cases hy : 0 <= y
     . have := Int.mul_le_mul_of_nonneg_right hp hy; omega
     . omega
theorem hi_ref (n : Int) : halvZ (arZ .sub .i64 n (lowZ n 12)) 12 = hiZ n := by
 obtain ⟨h1, h2, h3, _⟩ := hi_parts n
 have e : arZ .sub .i64 n (lowZ n 12) = 2 ^ 12 * hiZ n := by rw [ar_sub, <- h1]; rfl
 rw [e, halv_pow 12 12 (hiZ n) (Nat.le_refl _) (by unfold isI; omega)]
 simp
theorem tzZ_ex : ∃ f : Int -> Int, ∀ v, f v = (((List.range 64).find? (fun k => v.toNat.testBit k)).getD 64 : Nat) := ⟨_, fun _ => rfl⟩
noncomputable def tzZ : Int -> Int := Classical.choose tzZ_ex
theorem tzZ_eq (v : Int) : tzZ v = (((List.range 64).find? (fun k => v.toNat.testBit k)).getD 64 : Nat) := Classical.choose_spec tzZ_ex v
theorem bit_odd (k q i : Nat) : (2 ^ k * (2 * q + 1)).testBit i = if i < k then false else (2 * q + 1).testBit (i - k) := by
 have := Nat.testBit_two_pow_mul_add (2 * q + 1) (b := 0) (i := k) (Nat.two_pow_pos k) i
 rw [Nat.add_zero] at this
 rw [this]
 simp
theorem tz_of {u : Int} {k q : Nat} (hk : k < 64) (h : u = ((2 ^ k * (2 * q + 1) : Nat) : Int)) : tzZ u = k := by
 rw [tzZ_eq, h, qN]
 have : (List.range 64).find? (fun j => (2 ^ k * (2 * q + 1)).testBit j) = some k := by
   rw [List.find?_range_eq_some]
   refine ⟨?_, by simpa using hk, fun j hj => ?_⟩
   . rw [bit_odd, if_neg (by omega), Nat.sub_self, Nat.testBit_zero]; simp
   . rw [bit_odd, if_pos hj]; rfl
 rw [this]; rfl
theorem and_neg {k q : Nat} (hk : k < 64) (hu : 2 ^ k * (2 * q + 1) < 2 ^ 64) : (2 ^ k * (2 * q + 1)) &&& (2 ^ 64 - 2 ^ k * (2 * q + 1)) = 2 ^ k := by
 apply Nat.eq_of_testBit_eq
 intro i
 have hp := Nat.two_pow_pos k
 have h1 : 2 ^ k * (2 * q + 1) = (2 ^ k * (2 * q) + (2 ^ k - 1)) + 1 := by rw [Nat.mul_add, Nat.mul_one]; omega
 have h2 : (2 ^ 64 - 2 ^ k * (2 * q + 1)).testBit i = (decide (i < 64) && !(2 ^ k * (2 * q) + (2 ^ k - 1)).testBit i) := by
   rw [h1]
   exact Nat.testBit_two_pow_sub_succ (by omega) i
 rw [Nat.testBit_and, h2, bit_odd, Nat.testBit_two_pow_mul_add _ (by omega), Nat.testBit_two_pow]
 by_cases hik : i < k
 . rw [if_pos hik]; simp; omega
 . rw [if_neg hik, if_neg hik]
   by_cases he : i = k
   . subst he
     simp [Nat.testBit_zero]; omega
   . obtain ⟨m, hm⟩ : ∃ m, i - k = m + 1 := ⟨i - k - 1, by omega⟩
     rw [hm, Nat.testBit_succ, Nat.testBit_succ, show (2 * q + 1) / 2 = q by omega, show 2 * q / 2 = q by omega]
     have : ¬ k = i := fun h => he h.symm
     cases q.testBit m <;> simp [this]
theorem odd_part : ∀ (m : Nat) (h : Int), h ≠ 0 -> -(2 ^ m : Nat) <= h -> h <= (2 ^ m : Nat) -> ∃ (k : Nat) (o : Int), h = 2 ^ k * o /\ o % 2 = 1 /\ k <= m
 | 0, h, h0, h1, h2 => by
   have : h = 1 \/ h = -1 := by simp at h1 h2; omega
   rcases this with rfl | rfl
   . exact ⟨0, 1, rfl, rfl, Nat.le_refl _⟩
   . exact ⟨0, -1, rfl, rfl, Nat.le_refl _⟩
 | m + 1, h, h0, h1, h2 => by
   by_cases he : h % 2 = 0
   . have e : (2 : Nat) ^ (m + 1) = 2 ^ m * 2 := Nat.pow_succ ..
     obtain ⟨k, o, ho, hodd, hk⟩ := odd_part m (h / 2) (by omega) (by omega) (by omega)
     refine ⟨k + 1, o, ?_, hodd, by omega⟩
     rw [Int.pow_succ, Int.mul_comm _ 2, Int.mul_assoc, <- ho]
     omega
   . exact ⟨0, h, by simp, by omega, by omega⟩
theorem wrap_odd {k : Nat} {o : Int} (hk : k < 64) (ho : o % 2 = 1) : ∃ q : Nat, IntKind.u64.wrap (2 ^ k * o) = ((2 ^ k * (2 * q + 1) : Nat) : Int) /\ 2 ^ k * (2 * q + 1) < 2 ^ 64 := by
 have e : (18446744073709551616 : Int) = 2 ^ k * 2 ^ (64 - k) := by rw [<- Int.pow_add, show k + (64 - k) = 64 by omega]; rfl
 have hp : (0 : Int) < 2 ^ k := Int.pow_pos (by decide)
 have h1 : IntKind.u64.wrap (2 ^ k * o) = 2 ^ k * (o % 2 ^ (64 - k)) := by
   rw [IntKind.wrap_u64, e, Int.mul_emod_mul_of_pos _ _ hp]
 have e2 : (2 : Int) ^ (64 - k) = 2 * 2 ^ (63 - k) := by rw [show 64 - k = (63 - k) + 1 by omega, Int.pow_succ, Int.mul_comm]
 have hp2 : (0 : Int) < 2 ^ (63 - k) := Int.pow_pos (by decide)
 have h2 : (o % 2 ^ (64 - k)) % 2 = 1 := by
   rw [e2, Int.emod_emod_of_dvd _ ⟨2 ^ (63 - k), rfl⟩]; exact ho
 have h3 := Int.emod_nonneg o (show (2 : Int) ^ (64 - k) ≠ 0 by rw [e2]; omega)
 have h4 := Int.emod_lt_of_pos o (show (0 : Int) < 2 ^ (64 - k) by rw [e2]; omega)
 refine ⟨(o % 2 ^ (64 - k) / 2).toNat, ?_, ?_⟩
 . rw [h1]
   have : ((2 * (o % 2 ^ (64 - k) / 2).toNat + 1 : Nat) : Int) = o % 2 ^ (64 - k) := by omega
   rw [Int.natCast_mul, Int.natCast_pow, this]; rfl
 . have : 2 * (o % 2 ^ (64 - k) / 2).toNat + 1 < 2 ^ (64 - k) := by
     have : ((2 ^ (64 - k) : Nat) : Int) = 2 ^ (64 - k) := by rw [Int.natCast_pow]; rfl
     omega
   have h5 := Nat.mul_lt_mul_of_pos_left this (Nat.two_pow_pos k)
   rwa [<- Nat.pow_add, show k + (64 - k) = 64 by omega] at h5
theorem tz_wrap {k : Nat} {o : Int} (hk : k < 64) (ho : o % 2 = 1) : tzZ (IntKind.u64.wrap (2 ^ k * o)) = k := by
 obtain ⟨q, h, _⟩ := wrap_odd hk ho
 exact tz_of hk h
end Go.Proofs.YtilljoemebbnjaaDoor
