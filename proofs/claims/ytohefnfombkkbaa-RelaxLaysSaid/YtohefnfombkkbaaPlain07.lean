/- Pure facts for layer 7 (alu): products by digits and by halves, quotients with signs, shifts bit by bit. No word of the program. -/
import Derived.Test.YtohefnfombkkbaaPlain01
namespace Go.Proofs.Ytohefnfombkkbaa
open Go Go.RowKit
set_option linter.unusedVariables false
theorem limbs_prod (x0 x1 x2 x3 y0 y1 y2 y3 : Nat) :
    (x0 + 65536 * x1 + 4294967296 * x2 + 281474976710656 * x3) * (y0 + 65536 * y1 + 4294967296 * y2 + 281474976710656 * y3) =
    x0 * y0 + 65536 * (x0 * y1 + x1 * y0) + 4294967296 * (x0 * y2 + x1 * y1 + x2 * y0) + 281474976710656 * (x0 * y3 + x1 * y2 + x2 * y1 + x3 * y0)
      + 18446744073709551616 * (x1 * y3 + x2 * y2 + x3 * y1) + 1208925819614629174706176 * (x2 * y3 + x3 * y2) + 79228162514264337593543950336 * (x3 * y3) := by
  grind
/-- A column sum carried upwards: eight digits of base 65536. -/
theorem carry8 (s0 s1 s2 s3 s4 s5 s6 s7 n0 n1 n2 n3 n4 n5 n6 n7 T : Nat)
    (e0 : n0 = s0) (e1 : n1 = s1 + n0 / 65536) (e2 : n2 = s2 + n1 / 65536) (e3 : n3 = s3 + n2 / 65536) (e4 : n4 = s4 + n3 / 65536) (e5 : n5 = s5 + n4 / 65536) (e6 : n6 = s6 + n5 / 65536) (e7 : n7 = s7 + n6 / 65536)
    (hT : T = s0 + 65536 * s1 + 4294967296 * s2 + 281474976710656 * s3 + 18446744073709551616 * s4 + 1208925819614629174706176 * s5 + 79228162514264337593543950336 * s6 + 5192296858534827628530496329220096 * s7)
    (h : T < 340282366920938463463374607431768211456) :
    n0 % 65536 + 65536 * (n1 % 65536) + 4294967296 * (n2 % 65536) + 281474976710656 * (n3 % 65536) = T % 18446744073709551616 ∧
    n4 % 65536 + 65536 * (n5 % 65536) + 4294967296 * (n6 % 65536) + 281474976710656 * (n7 % 65536) = T / 18446744073709551616 := by
  omega
/-- The columns of a product of four digits by four. -/
theorem cols16 {a b x0 x1 x2 x3 y0 y1 y2 y3 p00 p01 p02 p03 p10 p11 p12 p13 p20 p21 p22 p23 p30 p31 p32 p33 s0 s1 s2 s3 s4 s5 s6 s7 : Nat} (ex0 : x0 = a % 65536) (ex1 : x1 = a / 65536 % 65536) (ex2 : x2 = a / 4294967296 % 65536) (ex3 : x3 = a / 281474976710656) (ey0 : y0 = b % 65536) (ey1 : y1 = b / 65536 % 65536) (ey2 : y2 = b / 4294967296 % 65536) (ey3 : y3 = b / 281474976710656)
    (ep00 : p00 = x0 * y0) (ep01 : p01 = x0 * y1) (ep02 : p02 = x0 * y2) (ep03 : p03 = x0 * y3) (ep10 : p10 = x1 * y0) (ep11 : p11 = x1 * y1) (ep12 : p12 = x1 * y2) (ep13 : p13 = x1 * y3) (ep20 : p20 = x2 * y0) (ep21 : p21 = x2 * y1) (ep22 : p22 = x2 * y2) (ep23 : p23 = x2 * y3) (ep30 : p30 = x3 * y0) (ep31 : p31 = x3 * y1) (ep32 : p32 = x3 * y2) (ep33 : p33 = x3 * y3)
    (es0 : s0 = p00 % 65536) (es1 : s1 = p00 / 65536 + p01 % 65536 + p10 % 65536) (es2 : s2 = p01 / 65536 + p02 % 65536 + p10 / 65536 + p11 % 65536 + p20 % 65536) (es3 : s3 = p02 / 65536 + p03 % 65536 + p11 / 65536 + p12 % 65536 + p20 / 65536 + p21 % 65536 + p30 % 65536) (es4 : s4 = p03 / 65536 + p12 / 65536 + p13 % 65536 + p21 / 65536 + p22 % 65536 + p30 / 65536 + p31 % 65536) (es5 : s5 = p13 / 65536 + p22 / 65536 + p23 % 65536 + p31 / 65536 + p32 % 65536) (es6 : s6 = p23 / 65536 + p32 / 65536 + p33 % 65536) (es7 : s7 = p33 / 65536) :
    s0 + 65536 * s1 + 4294967296 * s2 + 281474976710656 * s3 + 18446744073709551616 * s4 + 1208925819614629174706176 * s5 + 79228162514264337593543950336 * s6 + 5192296858534827628530496329220096 * s7 = a * b := by
  have ha : a = x0 + 65536 * x1 + 4294967296 * x2 + 281474976710656 * x3 := by omega
  have hb : b = y0 + 65536 * y1 + 4294967296 * y2 + 281474976710656 * y3 := by omega
  have h := limbs_prod x0 x1 x2 x3 y0 y1 y2 y3
  rw [← ha, ← hb, ← ep00, ← ep01, ← ep02, ← ep03, ← ep10, ← ep11, ← ep12, ← ep13, ← ep20, ← ep21, ← ep22, ← ep23, ← ep30, ← ep31, ← ep32, ← ep33] at h
  rw [h]
  clear ha hb h ex0 ex1 ex2 ex3 ey0 ey1 ey2 ey3 ep00 ep01 ep02 ep03 ep10 ep11 ep12 ep13 ep20 ep21 ep22 ep23 ep30 ep31 ep32 ep33
  have d : ∀ p : Nat, p = 65536 * (p / 65536) + p % 65536 := fun p => by omega
  omega
/-- The upper word of a product, by halves. -/
theorem halves {x y x0 x1 y0 y1 w0 t w1 w2 : Nat} (hx : x < 18446744073709551616) (hy : y < 18446744073709551616) (e0 : x0 = x % 4294967296) (e1 : x1 = x / 4294967296) (f0 : y0 = y % 4294967296) (f1 : y1 = y / 4294967296)
    (ew0 : w0 = x0 * y0) (et : t = x1 * y0 + w0 / 4294967296) (ew1 : w1 = t % 4294967296 + x0 * y1) (ew2 : w2 = t / 4294967296) :
    x1 * y1 + w2 + w1 / 4294967296 = x * y / 18446744073709551616 ∧ w0 < 18446744073709551616 ∧ t < 18446744073709551616 ∧ w1 < 18446744073709551616 ∧ x1 * y1 + w2 + w1 / 4294967296 < 18446744073709551616 := by
  have hx' : x = x0 + 4294967296 * x1 := by omega
  have hy' : y = y0 + 4294967296 * y1 := by omega
  have hp : x * y = x0 * y0 + 4294967296 * (x0 * y1 + x1 * y0) + 18446744073709551616 * (x1 * y1) := by rw [hx', hy']; grind
  have lt : ∀ a b : Nat, a < 4294967296 → b < 4294967296 → a * b ≤ 18446744065119617025 := fun a b ha hb => by
    have := Nat.mul_le_mul (Nat.le_of_lt_succ (show a < 4294967295 + 1 from ha)) (Nat.le_of_lt_succ (show b < 4294967295 + 1 from hb))
    simpa using this
  have b00 := lt x0 y0 (by omega) (by omega)
  have b01 := lt x0 y1 (by omega) (by omega)
  have b10 := lt x1 y0 (by omega) (by omega)
  have b11 := lt x1 y1 (by omega) (by omega)
  rw [hp]
  generalize x0 * y0 = p00 at *
  generalize x0 * y1 = p01 at *
  generalize x1 * y0 = p10 at *
  generalize x1 * y1 = p11 at *
  subst ew0 et ew1 ew2
  clear hx hy e0 e1 f0 f1 hx' hy' hp lt
  omega
/-- The upper word of a product with signs, out of the product of the absolute values. -/
theorem upper_neg (P lo hi : Int) (h : P = 18446744073709551616 * hi + lo) (h0 : 0 ≤ lo) (h1 : lo < 18446744073709551616) : (-P) / 18446744073709551616 = (-hi - 1) + (if lo = 0 then 1 else 0) := by
  split <;> omega
/-- Division of numbers with a sign, by absolute values. -/
theorem quot_signs (a b : Int) (hb : b ≠ 0) : a.tdiv b = (if (a < 0) ≠ (b < 0) then -((a.natAbs / b.natAbs : Nat) : Int) else ((a.natAbs / b.natAbs : Nat) : Int)) ∧ a.tmod b = (if a < 0 then -((a.natAbs % b.natAbs : Nat) : Int) else ((a.natAbs % b.natAbs : Nat) : Int)) := by
  obtain ⟨m, hm⟩ := Int.eq_nat_or_neg a
  obtain ⟨n, hn⟩ := Int.eq_nat_or_neg b
  have e1 : a.natAbs = m := by rcases hm with rfl | rfl <;> simp
  have e2 : b.natAbs = n := by rcases hn with rfl | rfl <;> simp
  rw [e1, e2]
  have hn0 : n ≠ 0 := by intro h; subst h; rcases hn with rfl | rfl <;> simp at hb
  have q1 : (m : Int).tdiv (n : Int) = ((m / n : Nat) : Int) := (Int.ofNat_tdiv m n).symm
  have q2 : (m : Int).tmod (n : Int) = ((m % n : Nat) : Int) := (Int.ofNat_tmod m n).symm
  have z : m = 0 → ((m / n : Nat) : Int) = 0 ∧ ((m % n : Nat) : Int) = 0 := fun h => by subst h; simp
  rcases hm with rfl | rfl <;> rcases hn with rfl | rfl
  · rw [q1, q2, if_neg (by simp; omega), if_neg (by omega)]; exact ⟨rfl, rfl⟩
  · rw [Int.tdiv_neg, Int.tmod_neg, q1, q2, if_pos (by simp; omega), if_neg (by omega)]; exact ⟨rfl, rfl⟩
  · rw [Int.neg_tdiv, Int.neg_tmod, q1, q2]
    by_cases h : m = 0
    · obtain ⟨z1, z2⟩ := z h
      rw [z1, z2]; simp
    · rw [if_pos (by simp; omega), if_pos (by omega)]; exact ⟨rfl, rfl⟩
  · rw [Int.neg_tdiv, Int.neg_tmod, Int.tdiv_neg, Int.tmod_neg, q1, q2, Int.neg_neg]
    by_cases h : m = 0
    · obtain ⟨z1, z2⟩ := z h
      rw [z1, z2]; simp
    · rw [if_neg (by simp; omega), if_pos (by omega)]; exact ⟨rfl, rfl⟩
/-! ### Shifts, bit by bit -/
def sumB (f : Nat → Nat) : Nat → Nat
  | 0 => 0
  | k + 1 => sumB f k + f k * 2 ^ k
theorem sum_low (a : Nat) : ∀ k, sumB (bitN a) k = a % 2 ^ k
  | 0 => by simp [sumB, Nat.mod_one]
  | k + 1 => by
    show sumB (bitN a) k + bitN a k * 2 ^ k = _
    rw [sum_low a k, Nat.pow_succ, Nat.mod_mul, bitN, Nat.mul_comm]
theorem sum_congr {f g : Nat → Nat} : ∀ k, (∀ i, i < k → f i = g i) → sumB f k = sumB g k
  | 0, _ => rfl
  | k + 1, h => by
    show sumB f k + f k * 2 ^ k = sumB g k + g k * 2 ^ k
    rw [sum_congr k fun i hi => h i (by omega), h k (by omega)]
theorem sum_zero : ∀ k, sumB (fun _ => 0) k = 0
  | 0 => rfl
  | k + 1 => by show sumB _ k + 0 * 2 ^ k = 0; rw [sum_zero k]; simp
/-- Upwards: what comes in is zero. -/
theorem sum_up (a n : Nat) : ∀ k, sumB (fun i => if n ≤ i then bitN a (i - n) else 0) (n + k) = a % 2 ^ k * 2 ^ n
  | 0 => by
    rw [Nat.add_zero, sum_congr n (g := fun _ => 0) fun i hi => if_neg (by omega), sum_zero]
    simp [Nat.mod_one]
  | k + 1 => by
    show sumB _ (n + k) + (if n ≤ n + k then bitN a (n + k - n) else 0) * 2 ^ (n + k) = _
    rw [sum_up a n k, if_pos (by omega), show n + k - n = k by omega, Nat.pow_succ, Nat.mod_mul, bitN, Nat.pow_add, Nat.add_mul]
    congr 1
    rw [Nat.mul_comm (2 ^ k), Nat.mul_assoc, Nat.mul_comm (2 ^ n)]
/-- Downwards, ahead of what comes in. -/
theorem sum_down (a n w x : Nat) : ∀ k, k + n ≤ w → sumB (fun i => if i + n < w then bitN a (i + n) else x) k = a / 2 ^ n % 2 ^ k := fun k hk => by
  rw [sum_congr k (g := bitN (a / 2 ^ n)) fun i hi => by
    show (if i + n < w then bitN a (i + n) else x) = _
    rw [if_pos (by omega), bitN, bitN, Nat.div_div_eq_div_mul, ← Nat.pow_add, Nat.add_comm]]
  exact sum_low _ k
/-- .. and with it: k places beyond. -/
theorem sum_fill (a n w x : Nat) (hn : n ≤ w) : ∀ k, sumB (fun i => if i + n < w then bitN a (i + n) else x) (w - n + k) = a / 2 ^ n % 2 ^ (w - n) + x * (2 ^ (w - n + k) - 2 ^ (w - n))
  | 0 => by rw [Nat.add_zero, sum_down a n w x (w - n) (by omega)]; simp
  | k + 1 => by
    show sumB _ (w - n + k) + (if w - n + k + n < w then bitN a (w - n + k + n) else x) * 2 ^ (w - n + k) = _
    rw [sum_fill a n w x hn k, if_neg (by omega)]
    have h1 : 2 ^ (w - n + (k + 1)) = 2 * 2 ^ (w - n + k) := by rw [← Nat.add_assoc, Nat.pow_succ, Nat.mul_comm]
    have h2 : 2 ^ (w - n) ≤ 2 ^ (w - n + k) := Nat.pow_le_pow_right (by omega) (by omega)
    rw [h1, Nat.add_assoc, ← Nat.mul_add]
    congr 2
    omega
/-! ### Quotient and rest together -/
theorem wrap64_off (x : Int) : ∃ k, wrap64 x = x + 18446744073709551616 * k := ⟨(wrap64 x - x) / 18446744073709551616, by unfold wrap64; omega⟩
theorem wrap32_off (x : Int) : ∃ k, wrap32 x = x + 4294967296 * k := ⟨(wrap32 x - x) / 4294967296, by unfold wrap32; omega⟩
theorem wrap64_same {x y : Int} (k : Int) (h : x = y + 18446744073709551616 * k) (h0 : -9223372036854775808 ≤ y) (h1 : y ≤ 9223372036854775807) : wrap64 x = y := by unfold wrap64; omega
/-- What is left over from a quotient turned to 64 bits, times the divisor. -/
theorem parts_off {a b q r t : Int} (ht : t * b + r = a) (hq : ∃ k, q = t + 18446744073709551616 * k) (h0 : -9223372036854775808 ≤ a) (h1 : a ≤ 9223372036854775807) : wrap64 (wrap64 (q * b) + r) = a := by
  obtain ⟨k, rfl⟩ := hq
  obtain ⟨j, hj⟩ := wrap64_off ((t + 18446744073709551616 * k) * b)
  rw [hj, Int.add_mul, Int.mul_assoc]
  generalize k * b = p at *
  generalize t * b = u at *
  exact wrap64_same (p + j) (by omega) h0 h1
/-- Signed: 0 as divisor, and the one quotient that does not fit, too. -/
theorem parts_signed {a b q r : Int} (hq : q = if b = 0 then -1 else wrap64 (a.tdiv b)) (hr : r = if b = 0 then a else a.tmod b) (h0 : -9223372036854775808 ≤ a) (h1 : a ≤ 9223372036854775807) : wrap64 (wrap64 (q * b) + r) = a := by
  by_cases hb : b = 0
  · rw [if_pos hb] at hq hr
    subst hb
    rw [hr]
    exact parts_off (t := -1) (by simp) ⟨0, by rw [hq]; simp⟩ h0 h1
  · rw [if_neg hb] at hq hr
    subst hr
    refine parts_off (t := a.tdiv b) (by rw [Int.mul_comm]; exact Int.mul_tdiv_add_tmod a b) ?_ h0 h1
    rw [hq]; exact wrap64_off _
/-- Without signs. -/
theorem parts_plain {a b q r : Int} (hq : q = if b = 0 then -1 else wrap64 ((u64N a / u64N b : Nat) : Int)) (hr : r = if b = 0 then a else wrap64 ((u64N a % u64N b : Nat) : Int)) (h0 : -9223372036854775808 ≤ a) (h1 : a ≤ 9223372036854775807) : wrap64 (wrap64 (q * b) + r) = a := by
  by_cases hb : b = 0
  · rw [if_pos hb] at hq hr
    subst hb
    rw [hr]
    exact parts_off (t := -1) (by simp) ⟨0, by rw [hq]; simp⟩ h0 h1
  · rw [if_neg hb] at hq hr
    obtain ⟨k1, hk1⟩ := wrap64_off ((u64N a / u64N b : Nat) : Int)
    obtain ⟨k2, hk2⟩ := wrap64_off ((u64N a % u64N b : Nat) : Int)
    have ha : ∃ k, ((u64N a : Nat) : Int) = a + 18446744073709551616 * k := ⟨(((u64N a : Nat) : Int) - a) / 18446744073709551616, by unfold u64N; omega⟩
    have hbk : ∃ k, ((u64N b : Nat) : Int) = b + 18446744073709551616 * k := ⟨(((u64N b : Nat) : Int) - b) / 18446744073709551616, by unfold u64N; omega⟩
    obtain ⟨k3, hk3⟩ := ha
    obtain ⟨k4, hk4⟩ := hbk
    have hdm : ((u64N a / u64N b : Nat) : Int) * ((u64N b : Nat) : Int) + ((u64N a % u64N b : Nat) : Int) = ((u64N a : Nat) : Int) := by
      have := Nat.div_add_mod (u64N a) (u64N b)
      rw [Nat.mul_comm] at this
      exact_mod_cast this
    rw [hk1] at hq
    rw [hk2] at hr
    rw [hk3, hk4] at hdm
    generalize ((u64N a / u64N b : Nat) : Int) = t at *
    generalize ((u64N a % u64N b : Nat) : Int) = m at *
    obtain ⟨j, hj⟩ := wrap64_off (q * b)
    rw [hj, hr, hq, Int.add_mul, Int.mul_assoc]
    rw [Int.mul_add, Int.mul_comm t (18446744073709551616 * k4), Int.mul_assoc] at hdm
    generalize k1 * b = p at *
    generalize t * b = u at *
    generalize k4 * t = v at *
    exact wrap64_same (p + j + k2 + k3 - v) (by omega) h0 h1
/-- Of halves. -/
theorem parts_half {a b q r : Int} (hq : q = if b = 0 then -1 else wrap32 (a.tdiv b)) (hr : r = if b = 0 then a else a.tmod b) (h0 : -2147483648 ≤ a) (h1 : a ≤ 2147483647) : wrap32 (wrap64 (wrap64 (q * b) + r)) = a := by
  by_cases hb : b = 0
  · rw [if_pos hb] at hq hr
    subst hb
    rw [hr, Int.mul_zero]
    unfold wrap32 wrap64; omega
  · rw [if_neg hb] at hq hr
    have ht : a.tdiv b * b + r = a := by rw [hr, Int.mul_comm]; exact Int.mul_tdiv_add_tmod a b
    obtain ⟨k, hk⟩ := wrap32_off (a.tdiv b)
    rw [hk] at hq
    rw [hq, Int.add_mul, Int.mul_assoc]
    clear hq hr hk
    generalize a.tdiv b * b = u at *
    generalize k * b = p at *
    unfold wrap32 wrap64; omega
/-- What is left over is less than the divisor, without signs. -/
theorem rest_less {a b r : Int} (hb : u64N b ≠ 0) (hr : r = wrap64 ((u64N a % u64N b : Nat) : Int)) : u64N r < u64N b := by
  have h1 := Nat.mod_lt (u64N a) (Nat.pos_of_ne_zero hb)
  have h2 : u64N b < 18446744073709551616 := by unfold u64N; omega
  rw [hr, show wrap64 ((u64N a % u64N b : Nat) : Int) = i64N (u64N a % u64N b) from rfl, u64N_i64N _ (by omega)]
  exact h1
end Go.Proofs.Ytohefnfombkkbaa
