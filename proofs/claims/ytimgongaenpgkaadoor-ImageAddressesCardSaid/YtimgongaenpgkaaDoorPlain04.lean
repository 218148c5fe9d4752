/- Plain words for layer 4: the word of an instruction, as the document lists it; the instruction is told by its word. No word of the program. -/
import Derived.Test.YtimgongaenpgkaaDoorPlain03
namespace Go.Proofs.YtimgongaenpgkaaDoor
open Go.RowKit

/-! ### A field that is free -/
theorem or_field (w a n v : Nat) (hv : v < 2 ^ n) (hz : w / 2 ^ a % 2 ^ n = 0) : w ||| v * 2 ^ a = w + v * 2 ^ a := by
  have hr : w % 2 ^ a < 2 ^ a := Nat.mod_lt _ (Nat.two_pow_pos a)
  have hq : w = 2 ^ (a + n) * (w / 2 ^ a / 2 ^ n) + w % 2 ^ a := by
    have h1 := Nat.div_add_mod w (2 ^ a)
    have h2 := Nat.div_add_mod (w / 2 ^ a) (2 ^ n)
    rw [hz, Nat.add_zero] at h2
    rw [Nat.pow_add, Nat.mul_assoc, h2]; exact h1.symm
  generalize w % 2 ^ a = r at *
  generalize w / 2 ^ a / 2 ^ n = q at *
  subst hq
  have hle : 2 ^ a ≤ 2 ^ (a + n) := Nat.pow_le_pow_right (by omega) (by omega)
  have hm : 2 ^ a * v + r < 2 ^ (a + n) := by
    have : 2 ^ a * (v + 1) ≤ 2 ^ a * 2 ^ n := Nat.mul_le_mul_left _ hv
    rw [Nat.pow_add]; rw [Nat.mul_add] at this; omega
  have e1 : 2 ^ (a + n) * q + r + v * 2 ^ a = 2 ^ (a + n) * q + (2 ^ a * v + r) := by rw [Nat.mul_comm v]; omega
  rw [e1, Nat.two_pow_add_eq_or_of_lt hm, Nat.two_pow_add_eq_or_of_lt hr, Nat.two_pow_add_eq_or_of_lt (Nat.lt_of_lt_of_le hr hle), Nat.mul_comm v, Nat.or_assoc, Nat.or_comm r]
theorem put_or (w a n v : Nat) (hw : w < 4294967296) (h4 : a + n ≤ 32) (hz : w / 2 ^ a % 2 ^ n = 0) : putF w a n v = w + v % 2 ^ n * 2 ^ a := by
  rw [← or_field w a n (v % 2 ^ n) (Nat.mod_lt _ (Nat.two_pow_pos n)) hz]
  apply Nat.eq_of_testBit_eq
  intro i
  rw [test_putF _ _ _ _ _ hw h4, Nat.testBit_or, Nat.testBit_mul_two_pow, Nat.testBit_mod_two_pow]
  by_cases h : a ≤ i ∧ i < a + n
  · have h0 : w.testBit i = false := by
      have := test_getF w a n (i - a)
      rw [show getF w a n = 0 from hz, Nat.zero_testBit, show a + (i - a) = i by omega, decide_eq_true (show i - a < n by omega)] at this
      simpa using this.symm
    rw [if_pos h, h0, decide_eq_true (show i ≥ a from h.1), decide_eq_true (show i - a < n by omega)]; simp
  · rw [if_neg h]
    by_cases h1 : a ≤ i
    · rw [decide_eq_false (show ¬ i - a < n by omega)]; simp
    · rw [decide_eq_false (show ¬ i ≥ a by omega)]; simp

/-- The operations' words, by number. -/
def wordL : List Int := [0, 55, 23, 111, 103, 99, 4195, 16483, 20579, 24675, 28771, 3, 4099, 8195, 12291, 16387, 20483, 24579, 35, 4131, 8227, 12323, 19, 8211, 12307, 16403, 24595, 28691, 4115, 20499, 1073762323, 27, 4123, 20507, 1073762331, 51, 1073741875, 4147, 8243, 12339, 16435, 20531, 1073762355, 24627, 28723, 59, 1073741883, 4155, 20539, 1073762363, 33554483, 33558579, 33562675, 33566771, 33570867, 33574963, 33579059, 33583155, 33554491, 33570875, 33574971, 33579067, 33583163, 15, 115, 1048691, 268443695, 402661423, 134225967, 8239, 536879151, 1610620975, 1073750063, 2147491887, 2684362799, 3221233711, 3758104623, 268447791, 402665519, 134230063, 12335, 536883247, 1610625071, 1073754159, 2147495983, 2684366895, 3221237807, 3758108719]
def wordZ (op : Int) : Int := atZ wordL 0 op
/-- An immediate's bits in a word. -/
def immZ (k v : Int) : Int :=
  bif k == 1 then v % 1048576 * 4096
  else bif k == 2 then v / 1048576 % 2 * 2147483648 + v / 4096 % 256 * 4096 + v / 2048 % 2 * 1048576 + v / 2 % 1024 * 2097152
  else bif k == 3 then v % 4096 * 1048576
  else bif k == 4 then v / 4096 % 2 * 2147483648 + v / 2048 % 2 * 128 + v / 32 % 64 * 33554432 + v / 2 % 16 * 256
  else bif k == 5 then v / 32 % 128 * 33554432 + v % 32 * 128
  else bif k == 7 then v % 64 * 1048576
  else bif k == 8 then v % 32 * 1048576
  else bif k == 9 then v % 256 * 1048576
  else 0
def b01 (b : Bool) : Int := bif b then 1 else 0
theorem b01_cases (b : Bool) : b01 b = 0 ∨ b01 b = 1 := by cases b <;> simp [b01]
/-- The word of an instruction that may be. -/
def encZ (i : In) : Int := wordZ i.op + i.rd * 128 + i.a * 32768 + i.b * 1048576 + immZ (formZ i.op) i.imm + b01 i.aq * 67108864 + b01 i.rl * 33554432

/-- What is known of an operation's word, by its form. -/
def wordOk (k w : Int) : Bool := decide (0 ≤ w ∧ w < 4294967296) &&
  (bif k == 1 || k == 2 then decide (w < 128)
  else bif k == 3 || k == 4 || k == 5 then decide (w < 32768 ∧ w / 128 % 32 = 0)
  else bif k == 6 || k == 8 then decide (w / 128 % 32 = 0 ∧ w / 32768 % 1024 = 0)
  else bif k == 7 then decide (w / 128 % 32 = 0 ∧ w / 32768 % 2048 = 0)
  else bif k == 9 then decide (w = 15)
  else bif k == 10 || k == 11 then decide (w / 128 % 32 = 0 ∧ w / 32768 % 4096 = 0)
  else true)
theorem word_ok' : ∀ n : Fin 88, wordOk (formZ n.val) (wordZ n.val) = true := by decide +kernel
theorem wordOk_of {op : Int} (h : okB op = true) : wordOk (formZ op) (wordZ op) = true := by
  rcases op_cases op with ⟨n, h1, h2, rfl⟩ | h'
  · exact word_ok' ⟨n, h2⟩
  · rw [okB_out h'] at h; cases h
theorem form_rng' : ∀ n : Fin 88, n.val ≠ 0 → 0 ≤ formZ n.val ∧ formZ n.val ≤ 11 := by decide +kernel
theorem form_rng {op : Int} (h : okB op = true) : 0 ≤ formZ op ∧ formZ op ≤ 11 := by
  rcases op_cases op with ⟨n, h1, h2, rfl⟩ | h'
  · exact form_rng' ⟨n, h2⟩ (by simp; omega)
  · rw [okB_out h'] at h; cases h
/-- A valid instruction's fields, plainly. -/
structure Fld (k : Int) (W : Int) (i : In) : Prop where
  rd0 : 0 ≤ i.rd
  rd1 : i.rd ≤ 31
  rdn : rdF k = false → i.rd = 0
  a0 : 0 ≤ i.a
  a1 : i.a ≤ 31
  an : aF k = false → i.a = 0
  b0 : 0 ≤ i.b
  b1 : i.b ≤ 31
  bn : bF k = false → i.b = 0
  im : immB i.imm k = true
  aq : oF k = false → i.aq = false ∧ i.rl = false
  wd : wordOk k W = true
theorem reg_rng {r : Int} {u : Bool} (h : regB r u = true) : 0 ≤ r ∧ r ≤ 31 ∧ (u = false → r = 0) := by
  unfold regB at h
  split at h
  · rename_i hu; simp only [decide_eq_true_eq] at h; exact ⟨h.1, h.2, fun hn => by rw [hu] at hn; cases hn⟩
  · simp only [decide_eq_true_eq] at h; subst h; exact ⟨by omega, by omega, fun _ => rfl⟩
theorem may_ok {i : In} (h : mayB i = true) : okB i.op = true := by unfold mayB at h; simp only [Bool.and_eq_true] at h; exact h.1
theorem may_fld {i : In} (h : mayB i = true) : Fld (formZ i.op) (wordZ i.op) i := by
  have ho := may_ok h
  unfold mayB at h
  simp only [Bool.and_eq_true, Bool.or_eq_true, Bool.not_eq_true'] at h
  obtain ⟨_, h1, h2, h3, h4, h5⟩ := h
  obtain ⟨r0, r1, r2⟩ := reg_rng h1
  obtain ⟨a0, a1, a2⟩ := reg_rng h2
  obtain ⟨b0, b1, b2⟩ := reg_rng h3
  exact ⟨r0, r1, r2, a0, a1, a2, b0, b1, b2, h4, fun hn => by rcases h5 with h5 | h5
                                                              · rw [hn] at h5; cases h5
                                                              · exact h5, wordOk_of ho⟩
/-- The immediate's range, plainly. -/
def immRg (k v : Int) : Prop :=
  (k = 1 → -524288 ≤ v ∧ v < 524288) ∧ (k = 2 → -1048576 ≤ v ∧ v < 1048576 ∧ v % 2 = 0) ∧ (k = 4 → -4096 ≤ v ∧ v < 4096 ∧ v % 2 = 0) ∧ (k = 3 ∨ k = 5 → -2048 ≤ v ∧ v < 2048) ∧ (k = 7 → 0 ≤ v ∧ v < 64) ∧ (k = 8 → 0 ≤ v ∧ v < 32) ∧ (k = 9 → 0 ≤ v ∧ v < 256) ∧ (k = 0 ∨ k = 6 ∨ k = 10 ∨ k = 11 → v = 0)
theorem fitZ_rng {v : Int} (n : Nat) (h : fitZ v n = true) (h1 : 1 ≤ n) (h2 : n ≤ 64) : -((2 ^ (n - 1) : Nat) : Int) ≤ v ∧ v < ((2 ^ (n - 1) : Nat) : Int) := by
  unfold fitZ at h
  rw [if_pos (by omega), Int.toNat_natCast] at h
  exact (fitsB_iff v n).mp h
theorem even_mod {v : Int} (h : evenB v = true) : v % 2 = 0 := by
  unfold evenB at h
  simp only [beq_iff_eq] at h
  exact Int.emod_eq_zero_of_dvd (Int.dvd_of_tmod_eq_zero h)
theorem imm_rng {k v : Int} (h : immB v k = true) (h0 : 0 ≤ k) (h1 : k ≤ 11) : immRg k v := by
  have hk : k = 0 ∨ k = 1 ∨ k = 2 ∨ k = 3 ∨ k = 4 ∨ k = 5 ∨ k = 6 ∨ k = 7 ∨ k = 8 ∨ k = 9 ∨ k = 10 ∨ k = 11 := by omega
  unfold immRg
  rcases hk with rfl | rfl | rfl | rfl | rfl | rfl | rfl | rfl | rfl | rfl | rfl | rfl
  all_goals simp [immB, btwB] at h
  · subst h; simp
  · have := fitZ_rng 20 h (by omega) (by omega); simp at this; omega
  · have := fitZ_rng 21 h.2 (by omega) (by omega); have := even_mod h.1; simp at *; omega
  · have := fitZ_rng 12 h (by omega) (by omega); simp at this; omega
  · have := fitZ_rng 13 h.2 (by omega) (by omega); have := even_mod h.1; simp at *; omega
  · have := fitZ_rng 12 h (by omega) (by omega); simp at this; omega
  all_goals omega
/-- The bits of a word that are its operation's in a form. -/
def fixZ (k w : Int) : Int :=
  bif k == 1 || k == 2 then w % 128
  else bif k == 3 || k == 4 || k == 5 then w % 128 + w / 4096 % 8 * 4096
  else bif k == 6 || k == 8 then w % 128 + w / 4096 % 8 * 4096 + w / 33554432 * 33554432
  else bif k == 7 then w % 128 + w / 4096 % 8 * 4096 + w / 67108864 * 67108864
  else bif k == 9 then w % 1048576 + w / 268435456 * 268435456
  else bif k == 10 then w % 128 + w / 4096 % 8 * 4096 + w / 1048576 % 32 * 1048576 + w / 134217728 * 134217728
  else bif k == 11 then w % 128 + w / 4096 % 8 * 4096 + w / 134217728 * 134217728
  else w
/-- A word's immediate in a form. -/
def sgn (v p : Int) : Int := if v < p then v else v - 2 * p
def immD (k w : Int) : Int :=
  bif k == 1 then sgn (w / 4096) 524288
  else bif k == 2 then sgn (w / 2147483648 % 2 * 1048576 + w / 2097152 % 1024 * 2 + w / 1048576 % 2 * 2048 + w / 4096 % 256 * 4096) 1048576
  else bif k == 3 then sgn (w / 1048576) 2048
  else bif k == 4 then sgn (w / 2147483648 % 2 * 4096 + w / 33554432 % 64 * 32 + w / 256 % 16 * 2 + w / 128 % 2 * 2048) 4096
  else bif k == 5 then sgn (w / 33554432 * 32 + w / 128 % 32) 2048
  else bif k == 7 then w / 1048576 % 64
  else bif k == 8 then w / 1048576 % 32
  else bif k == 9 then w / 1048576 % 256
  else 0
/-- What a word is as an instruction of this operation. -/
def asIn (op w : Int) : In := ⟨op, bif rdF (formZ op) then w / 128 % 32 else 0, bif aF (formZ op) then w / 32768 % 32 else 0, bif bF (formZ op) then w / 1048576 % 32 else 0, immD (formZ op) w,
  oF (formZ op) && w / 67108864 % 2 == 1, oF (formZ op) && w / 33554432 % 2 == 1⟩
theorem parts_j (v : Int) (h0 : -1048576 ≤ v) (h1 : v < 1048576) (h2 : v % 2 = 0) : ∃ s p q r : Int, v / 1048576 % 2 = s ∧ v / 4096 % 256 = p ∧ v / 2048 % 2 = q ∧ v / 2 % 1024 = r ∧ v = s * 1048576 + r * 2 + q * 2048 + p * 4096 - 2 * s * 1048576 ∧ 0 ≤ s ∧ s < 2 ∧ 0 ≤ p ∧ p < 256 ∧ 0 ≤ q ∧ q < 2 ∧ 0 ≤ r ∧ r < 1024 :=
  ⟨_, _, _, _, rfl, rfl, rfl, rfl, by omega, by omega, by omega, by omega, by omega, by omega, by omega, by omega, by omega⟩
theorem parts_b (v : Int) (h0 : -4096 ≤ v) (h1 : v < 4096) (h2 : v % 2 = 0) : ∃ s p q r : Int, v / 4096 % 2 = s ∧ v / 2048 % 2 = q ∧ v / 32 % 64 = p ∧ v / 2 % 16 = r ∧ v = s * 4096 + p * 32 + r * 2 + q * 2048 - 2 * s * 4096 ∧ 0 ≤ s ∧ s < 2 ∧ 0 ≤ p ∧ p < 64 ∧ 0 ≤ q ∧ q < 2 ∧ 0 ≤ r ∧ r < 16 :=
  ⟨_, _, _, _, rfl, rfl, rfl, rfl, by omega, by omega, by omega, by omega, by omega, by omega, by omega, by omega, by omega⟩
theorem parts_s (v : Int) (h0 : -2048 ≤ v) (h1 : v < 2048) : ∃ s p q : Int, v / 32 % 128 = s * 64 + p ∧ v % 32 = q ∧ v = s * 2048 + p * 32 + q - 2 * s * 2048 ∧ 0 ≤ s ∧ s < 2 ∧ 0 ≤ p ∧ p < 64 ∧ 0 ≤ q ∧ q < 32 :=
  ⟨v / 32 % 128 / 64, v / 32 % 64, _, by omega, rfl, by omega, by omega, by omega, by omega, by omega, by omega, by omega⟩
theorem parts_i (v : Int) (h0 : -2048 ≤ v) (h1 : v < 2048) : ∃ s p : Int, v % 4096 = s * 2048 + p ∧ v = s * 2048 + p - 2 * s * 2048 ∧ 0 ≤ s ∧ s < 2 ∧ 0 ≤ p ∧ p < 2048 :=
  ⟨v % 4096 / 2048, v % 2048, by omega, by omega, by omega, by omega, by omega, by omega⟩
theorem parts_u (v : Int) (h0 : -524288 ≤ v) (h1 : v < 524288) : ∃ s p : Int, v % 1048576 = s * 524288 + p ∧ v = s * 524288 + p - 2 * s * 524288 ∧ 0 ≤ s ∧ s < 2 ∧ 0 ≤ p ∧ p < 524288 :=
  ⟨v % 1048576 / 524288, v % 524288, by omega, by omega, by omega, by omega, by omega, by omega⟩
theorem b01_eq (b : Bool) : (b01 b == 1) = b := by cases b <;> rfl
/-- W's parts where A stands free. -/
theorem parts_w (W : Int) (h0 : 0 ≤ W) (h1 : W < 32768) (h2 : W / 128 % 32 = 0) : ∃ o f : Int, W = o + f * 4096 ∧ 0 ≤ o ∧ o < 128 ∧ 0 ≤ f ∧ f < 8 :=
  ⟨W % 128, W / 4096, by omega, by omega, by omega, by omega, by omega⟩
theorem parts_w2 (W : Int) (m p : Int) (h0 : 0 ≤ W) (h1 : W < 4294967296) (h2 : W / 128 % 32 = 0) (hm : m = 1024 ∧ p = 33554432 ∨ m = 2048 ∧ p = 67108864 ∨ m = 4096 ∧ p = 134217728) (h3 : W / 32768 % m = 0) : ∃ o f g : Int, W = o + f * 4096 + g * p ∧ 0 ≤ o ∧ o < 128 ∧ 0 ≤ f ∧ f < 8 ∧ 0 ≤ g ∧ g * p < 4294967296 := by
  rcases hm with ⟨rfl, rfl⟩ | ⟨rfl, rfl⟩ | ⟨rfl, rfl⟩
  · exact ⟨W % 128, W / 4096 % 8, W / 33554432, by omega, by omega, by omega, by omega, by omega, by omega, by omega⟩
  · exact ⟨W % 128, W / 4096 % 8, W / 67108864, by omega, by omega, by omega, by omega, by omega, by omega, by omega⟩
  · exact ⟨W % 128, W / 4096 % 8, W / 134217728, by omega, by omega, by omega, by omega, by omega, by omega, by omega⟩
theorem form_u (E W rd v : Int) (hE : E = W + rd * 128 + v * 4096) (h0 : 0 ≤ W) (h1 : W < 128) (h2 : 0 ≤ rd) (h3 : rd ≤ 31) (h4 : 0 ≤ v) (h5 : v < 1048576) :
    (0 ≤ E ∧ E < 4294967296) ∧ E % 128 = W ∧ E / 128 % 32 = rd ∧ E / 4096 = v := ⟨⟨by omega, by omega⟩, by omega, by omega, by omega⟩
theorem form_j (E W rd s p q r : Int) (hE : E = W + rd * 128 + (s * 2147483648 + p * 4096 + q * 1048576 + r * 2097152)) (h0 : 0 ≤ W) (h1 : W < 128) (h2 : 0 ≤ rd) (h3 : rd ≤ 31)
    (s0 : 0 ≤ s) (s1 : s < 2) (p0 : 0 ≤ p) (p1 : p < 256) (q0 : 0 ≤ q) (q1 : q < 2) (r0 : 0 ≤ r) (r1 : r < 1024) :
    (0 ≤ E ∧ E < 4294967296) ∧ E % 128 = W ∧ E / 128 % 32 = rd ∧ E / 2147483648 % 2 = s ∧ E / 2097152 % 1024 = r ∧ E / 1048576 % 2 = q ∧ E / 4096 % 256 = p :=
  ⟨⟨by omega, by omega⟩, by omega, by omega, by omega, by omega, by omega, by omega⟩
theorem form_i (E o f rd a v : Int) (hE : E = o + f * 4096 + rd * 128 + a * 32768 + v * 1048576) (h0 : 0 ≤ o) (h1 : o < 128) (f0 : 0 ≤ f) (f1 : f < 8) (h2 : 0 ≤ rd) (h3 : rd ≤ 31) (a0 : 0 ≤ a) (a1 : a ≤ 31) (h4 : 0 ≤ v) (h5 : v < 4096) :
    (0 ≤ E ∧ E < 4294967296) ∧ E % 128 = o ∧ E / 4096 % 8 = f ∧ E / 128 % 32 = rd ∧ E / 32768 % 32 = a ∧ E / 1048576 = v := ⟨⟨by omega, by omega⟩, by omega, by omega, by omega, by omega, by omega⟩
theorem form_b (E o f a b s p q r : Int) (hE : E = o + f * 4096 + a * 32768 + b * 1048576 + (s * 2147483648 + q * 128 + p * 33554432 + r * 256)) (h0 : 0 ≤ o) (h1 : o < 128) (f0 : 0 ≤ f) (f1 : f < 8) (a0 : 0 ≤ a) (a1 : a ≤ 31) (b0 : 0 ≤ b) (b1 : b ≤ 31)
    (s0 : 0 ≤ s) (s1 : s < 2) (p0 : 0 ≤ p) (p1 : p < 64) (q0 : 0 ≤ q) (q1 : q < 2) (r0 : 0 ≤ r) (r1 : r < 16) :
    (0 ≤ E ∧ E < 4294967296) ∧ E % 128 = o ∧ E / 4096 % 8 = f ∧ E / 32768 % 32 = a ∧ E / 1048576 % 32 = b ∧ E / 2147483648 % 2 = s ∧ E / 33554432 % 64 = p ∧ E / 256 % 16 = r ∧ E / 128 % 2 = q :=
  ⟨⟨by omega, by omega⟩, by omega, by omega, by omega, by omega, by omega, by omega, by omega, by omega⟩
theorem form_s (E o f a b p q : Int) (hE : E = o + f * 4096 + a * 32768 + b * 1048576 + (p * 33554432 + q * 128)) (h0 : 0 ≤ o) (h1 : o < 128) (f0 : 0 ≤ f) (f1 : f < 8) (a0 : 0 ≤ a) (a1 : a ≤ 31) (b0 : 0 ≤ b) (b1 : b ≤ 31)
    (p0 : 0 ≤ p) (p1 : p < 128) (q0 : 0 ≤ q) (q1 : q < 32) :
    (0 ≤ E ∧ E < 4294967296) ∧ E % 128 = o ∧ E / 4096 % 8 = f ∧ E / 32768 % 32 = a ∧ E / 1048576 % 32 = b ∧ E / 33554432 = p ∧ E / 128 % 32 = q :=
  ⟨⟨by omega, by omega⟩, by omega, by omega, by omega, by omega, by omega, by omega⟩
theorem form_r (E o f g rd a b : Int) (hE : E = o + f * 4096 + g * 33554432 + rd * 128 + a * 32768 + b * 1048576) (h0 : 0 ≤ o) (h1 : o < 128) (f0 : 0 ≤ f) (f1 : f < 8) (g0 : 0 ≤ g) (g1 : g * 33554432 < 4294967296) (h2 : 0 ≤ rd) (h3 : rd ≤ 31) (a0 : 0 ≤ a) (a1 : a ≤ 31) (b0 : 0 ≤ b) (b1 : b ≤ 31) :
    (0 ≤ E ∧ E < 4294967296) ∧ E % 128 = o ∧ E / 4096 % 8 = f ∧ E / 33554432 = g ∧ E / 128 % 32 = rd ∧ E / 32768 % 32 = a ∧ E / 1048576 % 32 = b :=
  ⟨⟨by omega, by omega⟩, by omega, by omega, by omega, by omega, by omega, by omega⟩
theorem form_h (E o f g rd a v : Int) (hE : E = o + f * 4096 + g * 67108864 + rd * 128 + a * 32768 + v * 1048576) (h0 : 0 ≤ o) (h1 : o < 128) (f0 : 0 ≤ f) (f1 : f < 8) (g0 : 0 ≤ g) (g1 : g * 67108864 < 4294967296) (h2 : 0 ≤ rd) (h3 : rd ≤ 31) (a0 : 0 ≤ a) (a1 : a ≤ 31) (b0 : 0 ≤ v) (b1 : v < 64) :
    (0 ≤ E ∧ E < 4294967296) ∧ E % 128 = o ∧ E / 4096 % 8 = f ∧ E / 67108864 = g ∧ E / 128 % 32 = rd ∧ E / 32768 % 32 = a ∧ E / 1048576 % 64 = v :=
  ⟨⟨by omega, by omega⟩, by omega, by omega, by omega, by omega, by omega, by omega⟩
theorem form_a (E o f g rd a b x y : Int) (hE : E = o + f * 4096 + g * 134217728 + rd * 128 + a * 32768 + b * 1048576 + x * 67108864 + y * 33554432) (h0 : 0 ≤ o) (h1 : o < 128) (f0 : 0 ≤ f) (f1 : f < 8) (g0 : 0 ≤ g) (g1 : g * 134217728 < 4294967296) (h2 : 0 ≤ rd) (h3 : rd ≤ 31) (a0 : 0 ≤ a) (a1 : a ≤ 31) (b0 : 0 ≤ b) (b1 : b ≤ 31)
    (x0 : 0 ≤ x) (x1 : x < 2) (y0 : 0 ≤ y) (y1 : y < 2) :
    (0 ≤ E ∧ E < 4294967296) ∧ E % 128 = o ∧ E / 4096 % 8 = f ∧ E / 134217728 = g ∧ E / 128 % 32 = rd ∧ E / 32768 % 32 = a ∧ E / 1048576 % 32 = b ∧ E / 67108864 % 2 = x ∧ E / 33554432 % 2 = y :=
  ⟨⟨by omega, by omega⟩, by omega, by omega, by omega, by omega, by omega, by omega, by omega, by omega⟩
/-- What is shown of a word of form k. -/
def Good4 (k W rd a b imm x y E : Int) : Prop := (0 ≤ E ∧ E < 4294967296) ∧ fixZ k E = W ∧ (bif rdF k then E / 128 % 32 else 0) = rd ∧ (bif aF k then E / 32768 % 32 else 0) = a ∧ (bif bF k then E / 1048576 % 32 else 0) = b ∧ immD k E = imm ∧ (oF k = true → E / 67108864 % 2 = x ∧ E / 33554432 % 2 = y)
theorem good1 (W rd imm E : Int) (hE : E = W + rd * 128 + imm % 1048576 * 4096) (h0 : 0 ≤ W) (h1 : W < 128) (r0 : 0 ≤ rd) (r1 : rd ≤ 31) (i0 : -524288 ≤ imm) (i1 : imm < 524288) : Good4 1 W rd 0 0 imm 0 0 E := by
  obtain ⟨f0, f1, f2, f3⟩ := form_u _ W rd (imm % 1048576) hE (by omega) (by omega) r0 r1 (by omega) (by omega)
  obtain ⟨s, p, e1, e2, s0, s1, p0, p1⟩ := parts_u imm (by omega) (by omega)
  simp [Good4, fixZ, rdF, aF, bF, oF, immD, atZ, sgn]
  refine ⟨f0, f1, f2, ?_⟩
  rw [f3]
  clear f0 f1 f2 f3 hE
  split <;> omega
theorem good2 (W rd imm E : Int) (hE : E = W + rd * 128 + (imm / 1048576 % 2 * 2147483648 + imm / 4096 % 256 * 4096 + imm / 2048 % 2 * 1048576 + imm / 2 % 1024 * 2097152)) (h0 : 0 ≤ W) (h1 : W < 128) (r0 : 0 ≤ rd) (r1 : rd ≤ 31) (i0 : -1048576 ≤ imm) (i1 : imm < 1048576) (i2 : imm % 2 = 0) : Good4 2 W rd 0 0 imm 0 0 E := by
  obtain ⟨s, p, q, r, e1, e2, e3, e4, e5, s0, s1, p0, p1, q0, q1, r0', r1'⟩ := parts_j imm i0 i1 i2
  rw [e1, e2, e3, e4] at hE
  obtain ⟨f0, f1, f2, f3, f4, f5, f6⟩ := form_j _ W rd s p q r hE h0 h1 r0 r1 s0 s1 p0 p1 q0 q1 r0' r1'
  simp [Good4, fixZ, rdF, aF, bF, oF, immD, atZ, sgn]
  refine ⟨f0, f1, f2, ?_⟩
  rw [f3, f4, f5, f6]
  clear f0 f1 f2 f3 f4 f5 f6 e1 e2 e3 e4 hE i0 i1 i2
  split <;> omega
theorem good3 (W rd a imm E : Int) (hE : E = W + rd * 128 + a * 32768 + imm % 4096 * 1048576) (h0 : 0 ≤ W) (h1 : W < 32768) (h2 : W / 128 % 32 = 0) (r0 : 0 ≤ rd) (r1 : rd ≤ 31) (a0 : 0 ≤ a) (a1 : a ≤ 31) (i0 : -2048 ≤ imm) (i1 : imm < 2048) : Good4 3 W rd a 0 imm 0 0 E := by
  obtain ⟨s, p, e1, e2, s0, s1, p0, p1⟩ := parts_i imm i0 i1
  obtain ⟨o, f, rfl, o0, o1, g0, g1⟩ := parts_w W h0 h1 h2
  obtain ⟨f0, f1, f2, f3, f4, f5⟩ := form_i _ o f rd a (imm % 4096) hE o0 o1 g0 g1 r0 r1 a0 a1 (by omega) (by omega)
  simp [Good4, fixZ, rdF, aF, bF, oF, immD, atZ, sgn]
  refine ⟨f0, by rw [f1, f2], f3, f4, ?_⟩
  rw [f5]
  clear f0 f1 f2 f3 f4 f5 hE h0 h1 h2
  split <;> omega
theorem good4 (W a b imm E : Int) (hE : E = W + a * 32768 + b * 1048576 + (imm / 4096 % 2 * 2147483648 + imm / 2048 % 2 * 128 + imm / 32 % 64 * 33554432 + imm / 2 % 16 * 256)) (h0 : 0 ≤ W) (h1 : W < 32768) (h2 : W / 128 % 32 = 0) (a0 : 0 ≤ a) (a1 : a ≤ 31) (b0 : 0 ≤ b) (b1 : b ≤ 31) (i0 : -4096 ≤ imm) (i1 : imm < 4096) (i2 : imm % 2 = 0) : Good4 4 W 0 a b imm 0 0 E := by
  obtain ⟨s, p, q, r, e1, e2, e3, e4, e5, s0, s1, p0, p1, q0, q1, r0', r1'⟩ := parts_b imm i0 i1 i2
  obtain ⟨o, f, rfl, o0, o1, g0, g1⟩ := parts_w W h0 h1 h2
  rw [e1, e2, e3, e4] at hE
  obtain ⟨f0, f1, f2, f3, f4, f5, f6, f7, f8⟩ := form_b _ o f a b s p q r hE o0 o1 g0 g1 a0 a1 b0 b1 s0 s1 p0 p1 q0 q1 r0' r1'
  simp [Good4, fixZ, rdF, aF, bF, oF, immD, atZ, sgn]
  refine ⟨f0, by rw [f1, f2], f3, f4, ?_⟩
  rw [f5, f6, f7, f8]
  clear f0 f1 f2 f3 f4 f5 f6 f7 f8 e1 e2 e3 e4 hE h0 h1 h2 i0 i1 i2
  split <;> omega
theorem good5 (W a b imm E : Int) (hE : E = W + a * 32768 + b * 1048576 + (imm / 32 % 128 * 33554432 + imm % 32 * 128)) (h0 : 0 ≤ W) (h1 : W < 32768) (h2 : W / 128 % 32 = 0) (a0 : 0 ≤ a) (a1 : a ≤ 31) (b0 : 0 ≤ b) (b1 : b ≤ 31) (i0 : -2048 ≤ imm) (i1 : imm < 2048) : Good4 5 W 0 a b imm 0 0 E := by
  obtain ⟨s, p, q, e1, e2, e5, s0, s1, p0, p1, q0, q1⟩ := parts_s imm i0 i1
  obtain ⟨o, f, rfl, o0, o1, g0, g1⟩ := parts_w W h0 h1 h2
  obtain ⟨f0, f1, f2, f3, f4, f5, f6⟩ := form_s _ o f a b (imm / 32 % 128) (imm % 32) hE o0 o1 g0 g1 a0 a1 b0 b1 (by omega) (by omega) (by omega) (by omega)
  simp [Good4, fixZ, rdF, aF, bF, oF, immD, atZ, sgn]
  refine ⟨f0, by rw [f1, f2], f3, f4, ?_⟩
  rw [f5, f6]
  clear f0 f1 f2 f3 f4 f5 f6 hE h0 h1 h2
  split <;> omega
theorem good6 (W rd a b E : Int) (hE : E = W + rd * 128 + a * 32768 + b * 1048576) (h0 : 0 ≤ W) (h1 : W < 4294967296) (h2 : W / 128 % 32 = 0) (h3 : W / 32768 % 1024 = 0) (r0 : 0 ≤ rd) (r1 : rd ≤ 31) (a0 : 0 ≤ a) (a1 : a ≤ 31) (b0 : 0 ≤ b) (b1 : b ≤ 31) : Good4 6 W rd a b 0 0 0 E := by
  obtain ⟨o, f, g, rfl, o0, o1, g0, g1, g2, g3⟩ := parts_w2 W 1024 33554432 h0 h1 h2 (by omega) h3
  obtain ⟨f0, f1, f2, f3, f4, f5, f6⟩ := form_r _ o f g rd a b hE o0 o1 g0 g1 g2 g3 r0 r1 a0 a1 b0 b1
  simp [Good4, fixZ, rdF, aF, bF, oF, immD, atZ, sgn]
  exact ⟨f0, by rw [f1, f2, f3], f4, f5, f6⟩
theorem good7 (W rd a imm E : Int) (hE : E = W + rd * 128 + a * 32768 + imm % 64 * 1048576) (h0 : 0 ≤ W) (h1 : W < 4294967296) (h2 : W / 128 % 32 = 0) (h3 : W / 32768 % 2048 = 0) (r0 : 0 ≤ rd) (r1 : rd ≤ 31) (a0 : 0 ≤ a) (a1 : a ≤ 31) (i0 : 0 ≤ imm) (i1 : imm < 64) : Good4 7 W rd a 0 imm 0 0 E := by
  obtain ⟨o, f, g, rfl, o0, o1, g0, g1, g2, g3⟩ := parts_w2 W 2048 67108864 h0 h1 h2 (by omega) h3
  obtain ⟨f0, f1, f2, f3, f4, f5, f6⟩ := form_h _ o f g rd a (imm % 64) hE o0 o1 g0 g1 g2 g3 r0 r1 a0 a1 (by omega) (by omega)
  simp [Good4, fixZ, rdF, aF, bF, oF, immD, atZ, sgn]
  exact ⟨f0, by rw [f1, f2, f3], f4, f5, by rw [f6]; omega⟩
theorem good8 (W rd a imm E : Int) (hE : E = W + rd * 128 + a * 32768 + imm % 32 * 1048576) (h0 : 0 ≤ W) (h1 : W < 4294967296) (h2 : W / 128 % 32 = 0) (h3 : W / 32768 % 1024 = 0) (r0 : 0 ≤ rd) (r1 : rd ≤ 31) (a0 : 0 ≤ a) (a1 : a ≤ 31) (i0 : 0 ≤ imm) (i1 : imm < 32) : Good4 8 W rd a 0 imm 0 0 E := by
  obtain ⟨o, f, g, rfl, o0, o1, g0, g1, g2, g3⟩ := parts_w2 W 1024 33554432 h0 h1 h2 (by omega) h3
  obtain ⟨f0, f1, f2, f3, f4, f5, f6⟩ := form_r _ o f g rd a (imm % 32) hE o0 o1 g0 g1 g2 g3 r0 r1 a0 a1 (by omega) (by omega)
  simp [Good4, fixZ, rdF, aF, bF, oF, immD, atZ, sgn]
  exact ⟨f0, by rw [f1, f2, f3], f4, f5, by rw [f6]; omega⟩
theorem good9 (imm E : Int) (hE : E = 15 + imm % 256 * 1048576) (i0 : 0 ≤ imm) (i1 : imm < 256) : Good4 9 15 0 0 0 imm 0 0 E := by
  simp [Good4, fixZ, rdF, aF, bF, oF, immD, atZ, sgn]
  exact ⟨by omega, by omega, by omega⟩
theorem good10 (W rd a x y E : Int) (hE : E = W + rd * 128 + a * 32768 + x * 67108864 + y * 33554432) (h0 : 0 ≤ W) (h1 : W < 4294967296) (h2 : W / 128 % 32 = 0) (h3 : W / 32768 % 4096 = 0) (r0 : 0 ≤ rd) (r1 : rd ≤ 31) (a0 : 0 ≤ a) (a1 : a ≤ 31) (x0 : x = 0 ∨ x = 1) (y0 : y = 0 ∨ y = 1) : Good4 10 W rd a 0 0 x y E := by
  obtain ⟨o, f, g, rfl, o0, o1, g0, g1, g2, g3⟩ := parts_w2 W 4096 134217728 h0 h1 h2 (by omega) h3
  obtain ⟨f0, f1, f2, f3, f4, f5, f6, f7, f8⟩ := form_a E o f g rd a 0 x y (by rw [hE, Int.zero_mul, Int.add_zero]) o0 o1 g0 g1 g2 g3 r0 r1 a0 a1 (by omega) (by omega) (by omega) (by omega) (by omega) (by omega)
  simp [Good4, fixZ, rdF, aF, bF, oF, immD, atZ, sgn]
  exact ⟨f0, by rw [f1, f2, f3, f6, Int.zero_mul, Int.add_zero], f4, f5, f7, f8⟩
theorem good11 (W rd a b x y E : Int) (hE : E = W + rd * 128 + a * 32768 + b * 1048576 + x * 67108864 + y * 33554432) (h0 : 0 ≤ W) (h1 : W < 4294967296) (h2 : W / 128 % 32 = 0) (h3 : W / 32768 % 4096 = 0) (r0 : 0 ≤ rd) (r1 : rd ≤ 31) (a0 : 0 ≤ a) (a1 : a ≤ 31) (b0 : 0 ≤ b) (b1 : b ≤ 31) (x0 : x = 0 ∨ x = 1) (y0 : y = 0 ∨ y = 1) : Good4 11 W rd a b 0 x y E := by
  obtain ⟨o, f, g, rfl, o0, o1, g0, g1, g2, g3⟩ := parts_w2 W 4096 134217728 h0 h1 h2 (by omega) h3
  obtain ⟨f0, f1, f2, f3, f4, f5, f6, f7, f8⟩ := form_a _ o f g rd a b x y hE o0 o1 g0 g1 g2 g3 r0 r1 a0 a1 b0 b1 (by omega) (by omega) (by omega) (by omega)
  simp [Good4, fixZ, rdF, aF, bF, oF, immD, atZ, sgn]
  exact ⟨f0, by rw [f1, f2, f3], f4, f5, f6, f7, f8⟩
theorem enc_good {i : In} (h : mayB i = true) : Good4 (formZ i.op) (wordZ i.op) i.rd i.a i.b i.imm (b01 i.aq) (b01 i.rl) (encZ i) := by
  have hk := form_rng (may_ok h)
  have F := may_fld h
  have hI := imm_rng F.im hk.1 hk.2
  obtain ⟨r0, r1, rn, a0, a1, an, b0, b1, bn, _, on, wd⟩ := F
  obtain ⟨op, rd, a, b, imm, aq, rl⟩ := i
  have hk' : formZ op = 0 ∨ formZ op = 1 ∨ formZ op = 2 ∨ formZ op = 3 ∨ formZ op = 4 ∨ formZ op = 5 ∨ formZ op = 6 ∨ formZ op = 7 ∨ formZ op = 8 ∨ formZ op = 9 ∨ formZ op = 10 ∨ formZ op = 11 := by simp at hk; omega
  have q0 := b01_cases aq
  have q1 := b01_cases rl
  unfold encZ
  simp only at *
  clear h
  generalize wordZ op = W at *
  unfold immRg at hI
  generalize formZ op = k at *
  rcases hk' with rfl | rfl | rfl | rfl | rfl | rfl | rfl | rfl | rfl | rfl | rfl | rfl
  all_goals
    simp [wordOk] at wd hI
    simp [rdF, aF, bF, oF, atZ] at rn an bn on
  · obtain ⟨rfl, rfl⟩ := on
    subst rn an bn hI
    simp [Good4, fixZ, rdF, aF, bF, oF, immD, immZ, atZ, b01]
    exact wd
  · obtain ⟨rfl, rfl⟩ := on
    subst an bn
    exact good1 W rd imm _ (by simp [immZ, b01]) (by omega) (by omega) r0 r1 (by omega) (by omega)
  · obtain ⟨rfl, rfl⟩ := on
    subst an bn
    exact good2 W rd imm _ (by simp [immZ, b01]) (by omega) (by omega) r0 r1 (by omega) (by omega) (by omega)
  · obtain ⟨rfl, rfl⟩ := on
    subst bn
    exact good3 W rd a imm _ (by simp [immZ, b01]) (by omega) (by omega) (by omega) r0 r1 a0 a1 (by omega) (by omega)
  · obtain ⟨rfl, rfl⟩ := on
    subst rn
    exact good4 W a b imm _ (by simp [immZ, b01]) (by omega) (by omega) (by omega) a0 a1 b0 b1 (by omega) (by omega) (by omega)
  · obtain ⟨rfl, rfl⟩ := on
    subst rn
    exact good5 W a b imm _ (by simp [immZ, b01]) (by omega) (by omega) (by omega) a0 a1 b0 b1 (by omega) (by omega)
  · obtain ⟨rfl, rfl⟩ := on
    subst hI
    exact good6 W rd a b _ (by simp [immZ, b01]) (by omega) (by omega) (by omega) (by omega) r0 r1 a0 a1 b0 b1
  · obtain ⟨rfl, rfl⟩ := on
    subst bn
    exact good7 W rd a imm _ (by simp [immZ, b01]) (by omega) (by omega) (by omega) (by omega) r0 r1 a0 a1 (by omega) (by omega)
  · obtain ⟨rfl, rfl⟩ := on
    subst bn
    exact good8 W rd a imm _ (by simp [immZ, b01]) (by omega) (by omega) (by omega) (by omega) r0 r1 a0 a1 (by omega) (by omega)
  · obtain ⟨rfl, rfl⟩ := on
    obtain rfl : W = 15 := wd.2
    subst rn an bn
    exact good9 imm _ (by simp [immZ, b01]) (by omega) (by omega)
  · subst bn hI
    exact good10 W rd a _ _ _ (by simp [immZ]) (by omega) (by omega) (by omega) (by omega) r0 r1 a0 a1 q0 q1
  · subst hI
    exact good11 W rd a b _ _ _ (by simp [immZ]) (by omega) (by omega) (by omega) (by omega) r0 r1 a0 a1 b0 b1 q0 q1
theorem enc_rng {i : In} (h : mayB i = true) : 0 ≤ encZ i ∧ encZ i < 4294967296 := (enc_good h).1
theorem enc_fix {i : In} (h : mayB i = true) : fixZ (formZ i.op) (encZ i) = wordZ i.op := (enc_good h).2.1
theorem enc_as {i : In} (h : mayB i = true) : asIn i.op (encZ i) = i := by
  obtain ⟨_, _, h1, h2, h3, h4, h5⟩ := enc_good h
  have hn := (may_fld h).aq
  have e1 := b01_eq i.aq
  have e2 := b01_eq i.rl
  unfold asIn
  rw [h1, h2, h3, h4]
  cases ho : oF (formZ i.op)
  · obtain ⟨n1, n2⟩ := hn ho
    obtain ⟨op, rd, a, b, imm, aq, rl⟩ := i
    simp at n1 n2 ⊢
    exact ⟨n1, n2⟩
  · obtain ⟨n1, n2⟩ := h5 ho
    rw [n1, n2, e1, e2]; rfl
/-- Which parts of a word a form fixes. -/
def has3 (k : Int) : Bool := !(k == 1 || k == 2)
def has25 (k : Int) : Bool := k == 6 || k == 8 || k == 0
def has26 (k : Int) : Bool := has25 k || k == 7
def has27 (k : Int) : Bool := has26 k || k == 10 || k == 11
def hasB5 (k : Int) : Bool := k == 10 || k == 0
def part3 (w : Int) : Int := w / 4096 % 8
/-- Do these two agree where both forms fix? -/
def agreeB (k j v w : Int) : Bool :=
  v % 128 == w % 128 && (!(has3 k && has3 j) || part3 v == part3 w) && (!(has25 k && has25 j) || v / 33554432 == w / 33554432) && (!(has26 k && has26 j) || v / 67108864 == w / 67108864) && (!(has27 k && has27 j) || v / 134217728 == w / 134217728)
    && (!(hasB5 k && hasB5 j) || v / 1048576 % 32 == w / 1048576 % 32)
theorem agree_all : ∀ m n : Fin 88, m.val = 0 ∨ n.val = 0 ∨ m = n ∨ agreeB (formZ m.val) (formZ n.val) (wordZ m.val) (wordZ n.val) = false := by decide +kernel
theorem fix_parts {k w W : Int} (h0 : 0 ≤ k) (h1 : k ≤ 11) (h : fixZ k w = W) : w % 128 = W % 128 ∧ (has3 k = true → part3 w = part3 W) ∧ (has25 k = true → w / 33554432 = W / 33554432) ∧ (has26 k = true → w / 67108864 = W / 67108864) ∧ (has27 k = true → w / 134217728 = W / 134217728) ∧ (hasB5 k = true → w / 1048576 % 32 = W / 1048576 % 32) := by
  have hk : k = 0 ∨ k = 1 ∨ k = 2 ∨ k = 3 ∨ k = 4 ∨ k = 5 ∨ k = 6 ∨ k = 7 ∨ k = 8 ∨ k = 9 ∨ k = 10 ∨ k = 11 := by omega
  rcases hk with rfl | rfl | rfl | rfl | rfl | rfl | rfl | rfl | rfl | rfl | rfl | rfl
  all_goals
    simp [fixZ] at h
    subst h
    simp [has3, has25, has26, has27, hasB5, part3]
  all_goals omega
theorem fix_one {m n w : Int} (hm : okB m = true) (hn : okB n = true) (h1 : fixZ (formZ m) w = wordZ m) (h2 : fixZ (formZ n) w = wordZ n) : m = n := by
  obtain ⟨f0, f1⟩ := form_rng hm
  obtain ⟨g0, g1⟩ := form_rng hn
  obtain ⟨a1, a2, a3, a4, a5, a6⟩ := fix_parts f0 f1 h1
  obtain ⟨b1, b2, b3, b4, b5, b6⟩ := fix_parts g0 g1 h2
  have hag : agreeB (formZ m) (formZ n) (wordZ m) (wordZ n) = true := by
    have ex : ∀ (p q : Bool) (x y : Int), (p = true → q = true → x = y) → (!(p && q) || x == y) = true := fun p q x y h => by
      cases p <;> cases q <;> simp
      exact h rfl rfl
    unfold agreeB
    simp only [Bool.and_eq_true]
    exact ⟨⟨⟨⟨⟨by simp; omega, ex _ _ _ _ fun p q => (a2 p).symm.trans (b2 q)⟩, ex _ _ _ _ fun p q => (a3 p).symm.trans (b3 q)⟩, ex _ _ _ _ fun p q => (a4 p).symm.trans (b4 q)⟩, ex _ _ _ _ fun p q => (a5 p).symm.trans (b5 q)⟩, ex _ _ _ _ fun p q => (a6 p).symm.trans (b6 q)⟩
  rcases op_cases m with ⟨m, m1, m2, rfl⟩ | h
  · rcases op_cases n with ⟨n, n1, n2, rfl⟩ | h
    · rcases agree_all ⟨m, m2⟩ ⟨n, n2⟩ with h | h | h | h
      · simp at h; omega
      · simp at h; omega
      · simp at h; omega
      · rw [hag] at h; cases h
    · rw [okB_out h] at hn; cases hn
  · rw [okB_out h] at hm; cases hm
/-- Unlike instructions have unlike words. -/
theorem enc_inj {i k : In} (hi : mayB i = true) (hk : mayB k = true) (h : encZ i = encZ k) : i = k := by
  have e : i.op = k.op := fix_one (may_ok hi) (may_ok hk) (enc_fix hi) (by rw [h]; exact enc_fix hk)
  rw [← enc_as hi, ← enc_as hk, h, e]
end Go.Proofs.YtimgongaenpgkaaDoor
