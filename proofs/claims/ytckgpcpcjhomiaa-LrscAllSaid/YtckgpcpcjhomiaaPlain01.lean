/- Plain arithmetic for layer 1: masks, fields, bits, bytes. No word of the program. -/
import Derived.WalkKit
import Derived.Laws.BitsAllLaws
namespace Go.Proofs.Ytckgpcpcjhomiaa
open Go.RowKit

theorem ret_int {k : IntKind} {a b : Int} (h : a = b) : Ending.returned (.int k a) = .returned (.int k b) := by rw [h]

theorem ones_eq' : ∀ n : Fin 33, (4294967295 : Int) / 2 ^ (32 - n.val) = ((2 ^ n.val - 1 : Nat) : Int) := by decide +kernel
theorem ones_eq (n : Nat) (h : n ≤ 32) : (4294967295 : Int) / 2 ^ (32 - n) = ((2 ^ n - 1 : Nat) : Int) := ones_eq' ⟨n, by omega⟩
theorem pow_le32 (n : Nat) (h : n ≤ 32) : 2 ^ n ≤ 4294967296 := Nat.pow_le_pow_right (by omega) h
theorem mask_eq (x n : Nat) (hx : x < 4294967296) (h : n ≤ 32) : bits .and .u32 (x : Int) ((2 ^ n - 1 : Nat) : Int) = ((x % 2 ^ n : Nat) : Int) := by
  have := pow_le32 n h
  have := Nat.two_pow_pos n
  rw [u32_and_nat x (2 ^ n - 1) hx (by omega), Nat.and_two_pow_sub_one_eq_mod]

/-- The field of w: n bits from bit a on. -/
def getF (w a n : Nat) : Nat := w / 2 ^ a % 2 ^ n
/-- w with its field replaced. -/
def putF (w a n v : Nat) : Nat := (w &&& (4294967295 - (2 ^ n - 1) * 2 ^ a)) ||| (v % 2 ^ n * 2 ^ a)


theorem getF_lt (w a n : Nat) (h : n ≤ 32) : getF w a n < 4294967296 :=
  Nat.lt_of_lt_of_le (Nat.mod_lt _ (Nat.two_pow_pos n)) (pow_le32 n h)
theorem get_eq (x a n : Nat) (hx : x < 4294967296) (h2 : n ≤ 32) :
    bits .and .u32 ((x : Int) / 2 ^ a) ((2 ^ n - 1 : Nat) : Int) = ((getF x a n : Nat) : Int) := by
  have e : (x : Int) / 2 ^ a = ((x / 2 ^ a : Nat) : Int) := by simp
  rw [e, mask_eq _ n (Nat.lt_of_le_of_lt (Nat.div_le_self _ _) hx) h2]; rfl
theorem field_top (a n : Nat) (h4 : a + n ≤ 32) : (2 ^ n - 1) * 2 ^ a < 4294967296 := by
  have h := pow_le32 (a + n) h4
  rw [Nat.pow_add, Nat.mul_comm] at h
  have := Nat.two_pow_pos a
  have := Nat.two_pow_pos n
  rw [Nat.sub_mul, Nat.one_mul]
  omega
theorem val_top (a n v : Nat) (h4 : a + n ≤ 32) : v % 2 ^ n * 2 ^ a < 4294967296 := by
  have h := pow_le32 (a + n) h4
  rw [Nat.pow_add, Nat.mul_comm] at h
  have h3 : v % 2 ^ n + 1 ≤ 2 ^ n := Nat.mod_lt _ (Nat.two_pow_pos n)
  have h5 := Nat.mul_le_mul_right (2 ^ a) h3
  rw [Nat.add_mul, Nat.one_mul] at h5
  have := Nat.two_pow_pos a
  omega
theorem shl_eq (y a : Nat) (h : y * 2 ^ a < 4294967296) : ((y : Int) * 2 ^ a) % 4294967296 = ((y * 2 ^ a : Nat) : Int) := by
  have e : (y : Int) * 2 ^ a = ((y * 2 ^ a : Nat) : Int) := by simp
  rw [e]; omega
theorem put_eq (x a n v : Nat) (hx : x < 4294967296) (hv : v < 4294967296) (h2 : n ≤ 32) (h4 : a + n ≤ 32) :
    bits .or .u32 (bits .andNot .u32 (x : Int) (((2 ^ n - 1 : Nat) : Int) * 2 ^ a % 4294967296)) (bits .and .u32 (v : Int) ((2 ^ n - 1 : Nat) : Int) * 2 ^ a % 4294967296) = ((putF x a n v : Nat) : Int) := by
  rw [mask_eq v n hv h2, shl_eq _ a (field_top a n h4), shl_eq _ a (val_top a n v h4), u32_andNot_nat x _ hx (field_top a n h4),
    u32_or_nat _ _ (Nat.lt_of_le_of_lt Nat.and_le_left hx) (val_top a n v h4)]
  rfl
theorem putF_lt (x a n v : Nat) (hx : x < 4294967296) (h4 : a + n ≤ 32) : putF x a n v < 4294967296 :=
  Nat.or_lt_two_pow (n := 32) (Nat.lt_of_le_of_lt Nat.and_le_left hx) (val_top a n v h4)

/-- Bit i of a number. -/
def bitN (v i : Nat) : Nat := v / 2 ^ i % 2
theorem bitN_test (v i : Nat) : bitN v i = (v.testBit i).toNat := by
  unfold bitN; rw [Nat.testBit_eq_decide_div_mod_eq]
  have : v / 2 ^ i % 2 < 2 := Nat.mod_lt _ (by omega)
  by_cases h : v / 2 ^ i % 2 = 1
  · simp [h]
  · simp [h]; omega
theorem bitN_lt (v i : Nat) : bitN v i < 2 := Nat.mod_lt _ (by omega)
theorem test_getF (w a n i : Nat) : (getF w a n).testBit i = (decide (i < n) && w.testBit (a + i)) := by
  unfold getF; rw [Nat.testBit_mod_two_pow, Nat.testBit_div_two_pow, Nat.add_comm]
theorem test_putF (w a n v i : Nat) (hw : w < 4294967296) (h4 : a + n ≤ 32) :
    (putF w a n v).testBit i = if a ≤ i ∧ i < a + n then v.testBit (i - a) else w.testBit i := by
  unfold putF
  have e : 4294967295 - (2 ^ n - 1) * 2 ^ a = 2 ^ 32 - ((2 ^ n - 1) * 2 ^ a + 1) := by omega
  have hw32 : w.testBit i = true → i < 32 := fun h => by
    refine Decidable.byContradiction fun hi => ?_
    have : w < 2 ^ i := Nat.lt_of_lt_of_le hw (Nat.pow_le_pow_right (n := 2) (by omega) (show 32 ≤ i by omega))
    rw [Nat.testBit_lt_two_pow this] at h; cases h
  rw [Nat.testBit_or, Nat.testBit_and, e, Nat.testBit_two_pow_sub_succ (field_top a n h4), Nat.testBit_mul_two_pow, Nat.testBit_mul_two_pow, Nat.testBit_mod_two_pow, Nat.testBit_two_pow_sub_one]
  by_cases h1 : a ≤ i <;> by_cases h2 : i < a + n
  · have : i - a < n := by omega
    have : i < 32 := by omega
    simp [*]
  · have : ¬ i - a < n := by omega
    simp [*]
    cases hb : w.testBit i <;> simp_all
  · have : i < 32 := by omega
    simp [*]
  · simp [*]
    cases hb : w.testBit i <;> simp_all
theorem bit_put_in (w a n v i : Nat) (hw : w < 4294967296) (h4 : a + n ≤ 32) (h : a ≤ i) (h' : i < a + n) : bitN (putF w a n v) i = bitN v (i - a) := by
  rw [bitN_test, bitN_test, test_putF _ _ _ _ _ hw h4, if_pos ⟨h, h'⟩]
theorem bit_put_out (w a n v i : Nat) (hw : w < 4294967296) (h4 : a + n ≤ 32) (h : ¬ (a ≤ i ∧ i < a + n)) : bitN (putF w a n v) i = bitN w i := by
  rw [bitN_test, bitN_test, test_putF _ _ _ _ _ hw h4, if_neg h]
theorem bit_get (w a n i : Nat) (h : a ≤ i) (h' : i < a + n) : bitN (getF w a n) (i - a) = bitN w i := by
  rw [bitN_test, bitN_test, test_getF, show a + (i - a) = i by omega]
  have : i - a < n := by omega
  simp [this]

/-- The signed number that the n lowest bits of x are. -/
def signN (x n : Nat) : Int := ((x % 2 ^ (n - 1) : Nat) : Int) - 2 ^ (n - 1) * ((bitN x (n - 1) : Nat) : Int)
theorem mod_top (x n : Nat) (h1 : 1 ≤ n) : x % 2 ^ n = x % 2 ^ (n - 1) + 2 ^ (n - 1) * bitN x (n - 1) := by
  obtain ⟨m, rfl⟩ : ∃ m, n = m + 1 := ⟨n - 1, by omega⟩
  simp only [Nat.add_sub_cancel, bitN]
  rw [Nat.pow_succ, Nat.mod_mul]
theorem sign_core (y b p k : Nat) (hb : b < 2) (hy : y < p) (hk : 0 < k) (hpk : p * k = 2147483648) :
    wrap64 (wrap32 (((y + p * b) * k : Nat) : Int) / (k : Int)) = (y : Int) - p * b := by
  have h5 : y * k < 2147483648 := by rw [← hpk]; exact (Nat.mul_lt_mul_right hk).mpr hy
  have hle : p ≤ 2147483648 := by rw [← hpk]; exact Nat.le_mul_of_pos_right _ hk
  have hk0 : (k : Int) ≠ 0 := by omega
  have main : wrap32 (((y + p * b) * k : Nat) : Int) / (k : Int) = (y : Int) - p * b := by
    have hc : b = 0 ∨ b = 1 := by omega
    rcases hc with rfl | rfl
    · have e : (y + p * 0) * k = y * k := by rw [Nat.mul_zero, Nat.add_zero]
      have hw : wrap32 ((y * k : Nat) : Int) = ((y * k : Nat) : Int) := by unfold wrap32; omega
      rw [e, hw, Int.natCast_mul, Int.mul_ediv_cancel _ hk0]; omega
    · have e : (y + p * 1) * k = y * k + 2147483648 := by rw [Nat.mul_one, Nat.add_mul, hpk]
      have hpk' : (p : Int) * k = 2147483648 := by rw [← Int.natCast_mul, hpk]; rfl
      have hw : wrap32 ((y * k + 2147483648 : Nat) : Int) = ((y : Int) - p) * k := by
        rw [Int.sub_mul, hpk', ← Int.natCast_mul]; unfold wrap32; omega
      rw [e, hw, Int.mul_ediv_cancel _ hk0]; omega
  rw [main]
  have hb2 : b = 0 ∨ b = 1 := by omega
  rcases hb2 with rfl | rfl <;> (unfold wrap64; omega)
theorem sign_shl (x n : Nat) (h2 : n ≤ 32) : (x : Int) * 2 ^ (32 - n) % 4294967296 = ((x % 2 ^ n * 2 ^ (32 - n) : Nat) : Int) := by
  have h32 : (2 : Nat) ^ n * 2 ^ (32 - n) = 4294967296 := by rw [← Nat.pow_add, show n + (32 - n) = 32 by omega]
  have e : (x : Int) * 2 ^ (32 - n) = ((x * 2 ^ (32 - n) : Nat) : Int) := by rw [Int.natCast_mul, Int.natCast_pow]; rfl
  have hm := Nat.mul_mod_mul_right (2 ^ (32 - n)) x (2 ^ n)
  rw [h32] at hm
  rw [e, ← hm]
  omega
theorem sign_eq (x n : Nat) (h1 : 1 ≤ n) (h2 : n ≤ 32) :
    wrap64 (wrap32 ((x : Int) * 2 ^ (32 - n) % 4294967296) / 2 ^ (32 - n)) = signN x n := by
  have hpk : 2 ^ (n - 1) * 2 ^ (32 - n) = 2147483648 := by rw [← Nat.pow_add, show n - 1 + (32 - n) = 31 by omega]
  have e : (2 : Int) ^ (32 - n) = ((2 ^ (32 - n) : Nat) : Int) := by rw [Int.natCast_pow]; rfl
  have hc := sign_core (x % 2 ^ (n - 1)) (bitN x (n - 1)) (2 ^ (n - 1)) (2 ^ (32 - n)) (bitN_lt _ _) (Nat.mod_lt _ (Nat.two_pow_pos _)) (Nat.two_pow_pos _) hpk
  rw [sign_shl x n h2, mod_top x n h1, e, hc]
  unfold signN
  rw [Int.natCast_pow]; rfl
theorem sign_bounds (x n : Nat) : -((2 ^ (n - 1) : Nat) : Int) ≤ signN x n ∧ signN x n < ((2 ^ (n - 1) : Nat) : Int) := by
  have hb := bitN_lt x (n - 1)
  have hm : x % 2 ^ (n - 1) < 2 ^ (n - 1) := Nat.mod_lt _ (Nat.two_pow_pos _)
  have e : (2 : Int) ^ (n - 1) = ((2 ^ (n - 1) : Nat) : Int) := by rw [Int.natCast_pow]; rfl
  unfold signN
  rw [e]
  have hc : bitN x (n - 1) = 0 ∨ bitN x (n - 1) = 1 := by omega
  rcases hc with hc | hc <;> rw [hc] <;> omega

/-- Fits, as the code decides it. -/
def fitsB (x : Int) (n : Nat) : Bool := x / 2 ^ (n - 1) == 0 || x / 2 ^ (n - 1) == -1
theorem fitsB_iff (x : Int) (n : Nat) : fitsB x n = true ↔ -(2 ^ (n - 1) : Nat) ≤ x ∧ x < (2 ^ (n - 1) : Nat) := by
  have hp : (0 : Int) < 2 ^ (n - 1) := Int.pow_pos (by decide)
  have hc : ((2 ^ (n - 1) : Nat) : Int) = 2 ^ (n - 1) := by rw [Int.natCast_pow]; rfl
  rw [hc]
  unfold fitsB
  generalize (2 : Int) ^ (n - 1) = p at *
  simp only [Bool.or_eq_true, beq_iff_eq]
  have h0 := Int.emod_nonneg x (Int.ne_of_gt hp)
  have h1 := Int.emod_lt_of_pos x hp
  have h2 := Int.mul_ediv_add_emod x p
  constructor
  · rintro (h | h) <;> rw [h] at h2
    · rw [Int.mul_zero] at h2; omega
    · rw [Int.mul_neg, Int.mul_one] at h2; omega
  · rintro ⟨ha, hb⟩
    by_cases hx : 0 ≤ x
    · left; exact Int.ediv_eq_zero_of_lt hx hb
    · right
      have e : x / p = (x + p) / p - 1 := by rw [Int.add_ediv_of_dvd_right ⟨1, by omega⟩, Int.ediv_self (by omega)]; omega
      rw [e, Int.ediv_eq_zero_of_lt (by omega) (by omega)]; rfl
theorem fitsB_no {x : Int} {n : Nat} (h : ¬ (-(2 ^ (n - 1) : Nat) ≤ x ∧ x < (2 ^ (n - 1) : Nat))) : fitsB x n = false := by
  cases hb : fitsB x n with
  | false => rfl
  | true => exact absurd ((fitsB_iff x n).mp hb) h

/-- Names that the walk does not take apart. -/
def shrN (v j : Nat) : Nat := v / 2 ^ j
def modN (v j : Nat) : Nat := v % 2 ^ j
def powN (j : Nat) : Nat := 2 ^ j
theorem shrN_zero (v : Nat) : shrN v 0 = v := by simp [shrN]
theorem shrN_le (v j : Nat) : shrN v j ≤ v := Nat.div_le_self _ _
theorem shrN_succ (v j : Nat) : shrN v (j + 1) = shrN v j / 2 := by unfold shrN; rw [Nat.pow_succ, Nat.div_div_eq_div_mul]
theorem shrN_bit (v j : Nat) : shrN v j % 2 = bitN v j := rfl
theorem powN_succ (j : Nat) : powN (j + 1) = 2 * powN j := by unfold powN; rw [Nat.pow_succ, Nat.mul_comm]
theorem powN_pos (j : Nat) : 0 < powN j := Nat.two_pow_pos j
theorem powN_le (i j : Nat) (h : i ≤ j) : powN i ≤ powN j := Nat.pow_le_pow_right (by omega) h
theorem powN_31 : powN 31 = 2147483648 := by decide
theorem powN_63 : powN 63 = 9223372036854775808 := by decide
theorem modN_lt (v j : Nat) : modN v j < powN j := Nat.mod_lt _ (Nat.two_pow_pos j)
theorem modN_zero (v : Nat) : modN v 0 = 0 := by simp [modN, Nat.mod_one]
theorem modN_succ (v j : Nat) : modN v (j + 1) = modN v j + powN j * bitN v j := by unfold modN powN bitN; rw [Nat.pow_succ, Nat.mod_mul]
theorem signN_eq (v n : Nat) : signN v n = (modN v (n - 1) : Int) - powN (n - 1) * bitN v (n - 1) := by
  unfold signN modN powN; rw [Int.natCast_pow]; rfl
/-- The n lowest bytes of v. -/
def sh8 (v j : Nat) : Nat := v / 256 ^ j
def byteN (v i : Nat) : Nat := sh8 v i % 256
theorem sh8_zero (v : Nat) : sh8 v 0 = v := by simp [sh8]
theorem sh8_le (v j : Nat) : sh8 v j ≤ v := Nat.div_le_self _ _
theorem sh8_succ (v j : Nat) : sh8 v (j + 1) = sh8 v j / 256 := by unfold sh8; rw [Nat.pow_succ, Nat.div_div_eq_div_mul]
def bytesN (v n : Nat) : List Nat := (List.range n).map (byteN v)
theorem bytesN_len (v n : Nat) : (bytesN v n).length = n := by simp [bytesN]
theorem bytesN_get (v n i : Nat) (h : i < n) : (bytesN v n)[i]? = some (byteN v i) := by simp [bytesN, h]
theorem bytesN_succ (v n : Nat) : bytesN v (n + 1) = bytesN v n ++ [byteN v n] := by simp [bytesN, List.range_succ]
theorem byteN_lt (v i : Nat) : byteN v i < 256 := Nat.mod_lt _ (by omega)

theorem pow8 (j : Nat) : 2 ^ (8 * j) = 256 ^ j := by rw [Nat.pow_mul]
theorem byte_eq (v j : Nat) : (v : Int) / 2 ^ (8 * j) % 256 = ((byteN v j : Nat) : Int) := by
  have e : (2 : Int) ^ (8 * j) = ((256 ^ j : Nat) : Int) := by rw [← pow8, Int.natCast_pow]; rfl
  rw [e]; unfold byteN sh8
  rw [Int.natCast_emod, Int.natCast_ediv]; rfl
/-- The number that the bytes f 0, f 1, .. form, the least significant first. -/
def joinN (f : Nat → Nat) : Nat → Nat
  | 0 => 0
  | j + 1 => joinN f j + f j * 256 ^ j
theorem joinN_lt (f : Nat → Nat) (j : Nat) (hb : ∀ i, f i < 256) : joinN f j < 256 ^ j := by
  induction j with
  | zero => simp [joinN]
  | succ j ih =>
    have h := hb j
    have h2 : (f j + 1) * 256 ^ j ≤ 256 * 256 ^ j := Nat.mul_le_mul_right _ h
    rw [Nat.add_mul, Nat.one_mul] at h2
    rw [joinN, Nat.pow_succ]; omega
theorem pow256_le (j : Nat) (h : j ≤ 8) : 256 ^ j ≤ 18446744073709551616 := Nat.pow_le_pow_right (n := 256) (by omega) h
theorem joinN_lt64 (f : Nat → Nat) (j : Nat) (h : j ≤ 8) (hb : ∀ i, f i < 256) : joinN f j < 18446744073709551616 :=
  Nat.lt_of_lt_of_le (joinN_lt f j hb) (pow256_le j h)

theorem join_step (f : Nat → Nat) (j : Nat) (h : j < 8) (hb : ∀ i, f i < 256) :
    bits .or .u64 (joinN f j : Nat) (IntKind.u64.wrap ((f j : Nat) * 2 ^ (8 * j))) = ((joinN f (j + 1) : Nat) : Int) := by
  have e : ((f j : Nat) : Int) * 2 ^ (8 * j) = ((f j * 256 ^ j : Nat) : Int) := by
    have : (2 : Int) ^ (8 * j) = ((256 ^ j : Nat) : Int) := by rw [← pow8, Int.natCast_pow]; rfl
    rw [this, Int.natCast_mul]
  have h1 := joinN_lt f j hb
  have h2 := joinN_lt64 f (j + 1) (by omega) hb
  have h3 : joinN f (j + 1) = joinN f j + f j * 256 ^ j := rfl
  have h5 := joinN_lt64 f j (by omega) hb
  have hw : IntKind.u64.wrap ((f j * 256 ^ j : Nat) : Int) = ((f j * 256 ^ j : Nat) : Int) := by rw [IntKind.wrap_u64]; omega
  rw [e, hw, u64_or_nat _ _ h5 (by omega)]
  have hj := nat_join (8 * j) (f j * 256 ^ j) (joinN f j) (by rw [pow8]; exact Nat.mul_mod_left _ _) (by rw [pow8]; exact h1)
  rw [Nat.or_comm, hj, h3, Nat.add_comm]

/-- An int as a uint64, and back. -/
def u64N (x : Int) : Nat := (x % 18446744073709551616).toNat
theorem u64N_lt (x : Int) : u64N x < 18446744073709551616 := by unfold u64N; omega
theorem u64N_eq (x : Int) : IntKind.u64.wrap x = ((u64N x : Nat) : Int) := by rw [IntKind.wrap_u64]; unfold u64N; omega
def i64N (u : Nat) : Int := wrap64 u
theorem i64N_u64N (x : Int) (h0 : -9223372036854775808 ≤ x) (h1 : x ≤ 9223372036854775807) : i64N (u64N x) = x := by unfold i64N u64N wrap64; omega
theorem u64N_i64N (u : Nat) (h : u < 18446744073709551616) : u64N (i64N u) = u := by unfold i64N u64N wrap64; omega
theorem i64N_lo (u : Nat) : -9223372036854775808 ≤ i64N u := by unfold i64N wrap64; omega
theorem i64N_hi (u : Nat) : i64N u ≤ 9223372036854775807 := by unfold i64N wrap64; omega
theorem joinN_bytes (v n : Nat) : joinN (byteN v) n = v % 256 ^ n := by
  induction n with
  | zero => simp [joinN, Nat.mod_one]
  | succ n ih =>
    rw [joinN, ih, Nat.pow_succ, Nat.mod_mul]
    show _ = v % 256 ^ n + 256 ^ n * (v / 256 ^ n % 256)
    rw [Nat.mul_comm (256 ^ n)]; rfl
theorem joinN_bytes4 (v : Nat) (h : v < 4294967296) : joinN (byteN v) 4 = v := by
  rw [joinN_bytes]; exact Nat.mod_eq_of_lt h
theorem joinN_bytes8 (v : Nat) (h : v < 18446744073709551616) : joinN (byteN v) 8 = v := by
  rw [joinN_bytes]; exact Nat.mod_eq_of_lt h
theorem joinN_congr (f g : Nat → Nat) (n : Nat) (h : ∀ i, i < n → f i = g i) : joinN f n = joinN g n := by
  induction n with
  | zero => rfl
  | succ n ih => rw [joinN, joinN, ih (fun i hi => h i (by omega)), h n (by omega)]
theorem byte_join (f : Nat → Nat) (hb : ∀ i, f i < 256) (n : Nat) : ∀ i, i < n → byteN (joinN f n) i = f i := by
  induction n with
  | zero => intro i hi; omega
  | succ n ih =>
    intro i hi
    have hl := joinN_lt f n hb
    unfold byteN sh8
    rw [joinN]
    by_cases h : i = n
    · subst h
      rw [Nat.add_mul_div_right _ _ (Nat.pow_pos (by omega)), Nat.div_eq_of_lt hl, Nat.zero_add, Nat.mod_eq_of_lt (hb i)]
    · have hi' : i < n := by omega
      obtain ⟨d, rfl⟩ : ∃ d, n = i + (d + 1) := ⟨n - i - 1, by omega⟩
      have e : f (i + (d + 1)) * 256 ^ (i + (d + 1)) = (f (i + (d + 1)) * 256 ^ d * 256) * 256 ^ i := by
        rw [Nat.pow_add, Nat.pow_succ, Nat.mul_comm (256 ^ i), Nat.mul_assoc, Nat.mul_assoc, Nat.mul_assoc]
      rw [e, Nat.add_mul_div_right _ _ (Nat.pow_pos (by omega)), Nat.add_mul_mod_self_right]
      exact ih i hi'
theorem bytes_join (f : Nat → Nat) (hb : ∀ i, f i < 256) (n : Nat) : bytesN (joinN f n) n = (List.range n).map f := by
  unfold bytesN
  apply List.map_congr_left
  intro i hi
  exact byte_join f hb n i (List.mem_range.mp hi)

/-- The 32 lowest bits of an int. -/
def lo32 (x : Int) : Nat := u64N x % 4294967296
theorem lo32_lt (x : Int) : lo32 x < 4294967296 := Nat.mod_lt _ (by omega)
theorem lo32_eq (x : Int) : ((u64N x : Nat) : Int) % 4294967296 = ((lo32 x : Nat) : Int) := by unfold lo32; omega
theorem lo32_int (x : Int) : ((lo32 x : Nat) : Int) = x % 4294967296 := by unfold lo32 u64N; omega
theorem sign_lo_core (x v p q : Nat) (hp : 0 < p) (b : Nat) (hx : x = v + p * q) (hv : v < p) (hq : q % 2 = b) : ((x % p : Nat) : Int) - p * ((x / p % 2 : Nat) : Int) = v - p * b := by
  have h1 : x % p = v := by rw [hx, Nat.add_mul_mod_self_left, Nat.mod_eq_of_lt hv]
  have h2 : x / p = q := by rw [hx, Nat.add_mul_div_left _ _ hp, Nat.div_eq_of_lt hv, Nat.zero_add]
  rw [h1, h2, hq]
theorem sign_lo32 (x : Int) (n : Nat) (h1 : 1 ≤ n) (h2 : n ≤ 32) (h : fitsB x n = true) : signN (lo32 x) n = x := by
  obtain ⟨ha, hb⟩ := (fitsB_iff x n).mp h
  have hl := lo32_int x
  have hpk : 2 ^ (n - 1) * (2 * 2 ^ (32 - n)) = 4294967296 := by
    rw [← Nat.mul_assoc, Nat.mul_comm (2 ^ (n - 1)) 2, Nat.mul_assoc, ← Nat.pow_add, show n - 1 + (32 - n) = 31 by omega]
  have hp : 0 < 2 ^ (n - 1) := Nat.two_pow_pos _
  have hk : 0 < 2 ^ (32 - n) := Nat.two_pow_pos _
  have hs : signN (lo32 x) n = ((lo32 x % 2 ^ (n - 1) : Nat) : Int) - ((2 ^ (n - 1) : Nat) : Int) * ((lo32 x / 2 ^ (n - 1) % 2 : Nat) : Int) := by
    unfold signN bitN; rw [Int.natCast_pow]; rfl
  rw [hs]
  have hle : 2 ^ (n - 1) ≤ 4294967296 := by rw [← hpk]; exact Nat.le_mul_of_pos_right _ (by omega)
  generalize 2 ^ (n - 1) = p at *
  generalize 2 ^ (32 - n) = k at *
  by_cases h0 : 0 ≤ x
  · rw [sign_lo_core (lo32 x) x.toNat p 0 hp 0 (by omega) (by omega) rfl]; omega
  · have hm : p * (2 * k - 1) = 4294967296 - p := by rw [Nat.mul_sub, hpk, Nat.mul_one]
    rw [sign_lo_core (lo32 x) (x + p).toNat p (2 * k - 1) hp 1 (by rw [hm]; omega) (by omega) (by omega)]; omega
theorem fitsB_64 (x : Int) (h0 : -9223372036854775808 ≤ x) (h1 : x ≤ 9223372036854775807) : fitsB x 64 = true :=
  (fitsB_iff x 64).mpr ⟨h0, Int.lt_of_le_of_lt h1 (by decide)⟩

theorem getF_pow (w a n : Nat) : getF w a n < powN n := Nat.mod_lt _ (Nat.two_pow_pos n)
theorem bit_get_put (w a n v i : Nat) (hw : w < 4294967296) (h4 : a + n ≤ 32) (h : a ≤ i) (h' : i < a + n) : bitN (getF (putF w a n v) a n) (i - a) = bitN v (i - a) := by
  rw [bit_get _ a n i h h', bit_put_in w a n v i hw h4 h h']
theorem powN_u64 (n : Nat) (h : n ≤ 63) : IntKind.u64.wrap (2 ^ n) = ((powN n : Nat) : Int) := by
  have h1 := powN_le n 63 h
  rw [powN_63] at h1
  have e : (2 : Int) ^ n = ((powN n : Nat) : Int) := by unfold powN; rw [Int.natCast_pow]; rfl
  rw [e, IntKind.wrap_u64]; omega

theorem u64_i64N (u : Nat) (h : u < 18446744073709551616) : IntKind.u64.wrap (i64N u) = (u : Int) := by rw [u64N_eq, u64N_i64N u h]

end Go.Proofs.Ytckgpcpcjhomiaa
