/- Plain words for layer 4: the word of an instruction, as the document lists it; the instruction is told by its word. No word of the program. -/
import Derived.Test.YtilljoemebbnjaaDoorPlain03
set_option linter.unusedVariables false
set_option linter.unusedSimpArgs false
namespace Go.Proofs.YtilljoemebbnjaaDoor
open Go.RowKit
theorem or_field (w a n v : Nat) (hv : v < 2 ^ n) (hz : w / 2 ^ a % 2 ^ n = 0) : w ||| v * 2 ^ a = w + v * 2 ^ a := by
 have hr : w % 2 ^ a < 2 ^ a := Nat.mod_lt _ (Nat.two_pow_pos a)
 have hq : w = 2 ^ (a + n) * (w / 2 ^ a / 2 ^ n) + w % 2 ^ a := by
   have h1 := Nat.div_add_mod w (2 ^ a)
   have h2 := Nat.div_add_mod (w / 2 ^ a) (2 ^ n)
   rw [hz, Nat.add_zero] at h2
   rw [Nat.pow_add, Nat.mul_assoc, h2]; exact h1.symm
 generalize w % 2 ^ a = r at *
 generalize w / 2 ^ a / 2 ^ n = q at *
 subst hq
 have hle : 2 ^ a <= 2 ^ (a + n) := Nat.pow_le_pow_right (by omega) (by omega)
 have hm : 2 ^ a * v + r < 2 ^ (a + n) := by
   have : 2 ^ a * (v + 1) <= 2 ^ a * 2 ^ n := Nat.mul_le_mul_left _ hv
   rw [Nat.pow_add]; rw [Nat.mul_add] at this; omega
 have e1 : 2 ^ (a + n) * q + r + v * 2 ^ a = 2 ^ (a + n) * q + (2 ^ a * v + r) := by rw [Nat.mul_comm v]; omega
 rw [e1, Nat.two_pow_add_eq_or_of_lt hm, Nat.two_pow_add_eq_or_of_lt hr, Nat.two_pow_add_eq_or_of_lt (Nat.lt_of_lt_of_le hr hle), Nat.mul_comm v, Nat.or_assoc, Nat.or_comm r]
theorem put_or (w a n v : Nat) (hw : w < 4294967296) (h4 : a + n <= 32) (hz : w / 2 ^ a % 2 ^ n = 0) : putF w a n v = w + v % 2 ^ n * 2 ^ a := by
 rw [<- or_field w a n (v % 2 ^ n) (Nat.mod_lt _ (Nat.two_pow_pos n)) hz]
 apply Nat.eq_of_testBit_eq
 intro i
 rw [test_putF _ _ _ _ _ hw h4, Nat.testBit_or, Nat.testBit_mul_two_pow, Nat.testBit_mod_two_pow]
 by_cases h : a <= i /\ i < a + n
 . have h0 : w.testBit i = false := by
     have := test_getF w a n (i - a)
     rw [show getF w a n = 0 from hz, Nat.zero_testBit, show a + (i - a) = i by omega, decide_eq_true (show i - a < n by omega)] at this
     simpa using this.symm
   rw [if_pos h, h0, decide_eq_true (show i >= a from h.1), decide_eq_true (show i - a < n by omega)]; simp
 . rw [if_neg h]
   by_cases h1 : a <= i
   . rw [decide_eq_false (show ¬ i - a < n by omega)]; simp
   . rw [decide_eq_false (show ¬ i >= a by omega)]; simp
def wordL : List Int := [0, 55, 23, 111, 103, 99, 4195, 16483, 20579, 24675, 28771, 3, 4099, 8195, 12291, 16387, 20483, 24579, 35, 4131, 8227, 12323, 19, 8211, 12307, 16403, 24595, 28691, 4115, 20499, 1073762323, 27, 4123, 20507, 1073762331, 51, 1073741875, 4147, 8243, 12339, 16435, 20531, 1073762355, 24627, 28723, 59, 1073741883, 4155, 20539, 1073762363, 33554483, 33558579, 33562675, 33566771, 33570867, 33574963, 33579059, 33583155, 33554491, 33570875, 33574971, 33579067, 33583163, 15, 115, 1048691, 268443695, 402661423, 134225967, 8239, 536879151, 1610620975, 1073750063, 2147491887, 2684362799, 3221233711, 3758104623, 268447791, 402665519, 134230063, 12335, 536883247, 1610625071, 1073754159, 2147495983, 2684366895, 3221237807, 3758108719]
def wordZ (op : Int) : Int := atZ wordL 0 op
def immZ (k v : Int) : Int :=
 bif k == 1 then v % 1048576 * 4096
 else bif k == 2 then v / 1048576 % 2 * 2147483648 + v / 4096 % 256 * 4096 + v / 2048 % 2 * 1048576 + v / 2 % 1024 * 2097152
 else bif k == 3 then v % 4096 * 1048576
 else bif k == 4 then v / 4096 % 2 * 2147483648 + v / 2048 % 2 * 128 + v / 32 % 64 * 33554432 + v / 2 % 16 * 256
 else bif k == 5 then v / 32 % 128 * 33554432 + v % 32 * 128
 else bif k == 7 then v % 64 * 1048576
 else bif k == 8 then v % 32 * 1048576
 else bif k == 9 then v % 256 * 1048576
 else 0
def b01 (b : Bool) : Int := bif b then 1 else 0
theorem b01_cases (b : Bool) : b01 b = 0 \/ b01 b = 1 := by cases b <;> simp [b01]
def encZ (i : In) : Int := wordZ i.op + i.rd * 128 + i.a * 32768 + i.b * 1048576 + immZ (formZ i.op) i.imm + b01 i.aq * 67108864 + b01 i.rl * 33554432
def wordOk (k w : Int) : Bool := decide (0 <= w /\ w < 4294967296) &&
 (bif k == 1 || k == 2 then decide (w < 128)
 else bif k == 3 || k == 4 || k == 5 then decide (w < 32768 /\ w / 128 % 32 = 0)
 else bif k == 6 || k == 8 then decide (w / 128 % 32 = 0 /\ w / 32768 % 1024 = 0)
 else bif k == 7 then decide (w / 128 % 32 = 0 /\ w / 32768 % 2048 = 0)
 else bif k == 9 then decide (w = 15)
 else bif k == 10 || k == 11 then decide (w / 128 % 32 = 0 /\ w / 32768 % 4096 = 0)
 else true)
theorem word_ok' : ∀ n : Fin 88, wordOk (formZ n.val) (wordZ n.val) = true := by decide +kernel
theorem wordOk_of {op : Int} (h : okB op = true) : wordOk (formZ op) (wordZ op) = true := by
 rcases op_cases op with ⟨n, h1, h2, rfl⟩ | h'
 . exact word_ok' ⟨n, h2⟩
 . rw [okB_out h'] at h; cases h
theorem form_rng' : ∀ n : Fin 88, n.val ≠ 0 -> 0 <= formZ n.val /\ formZ n.val <= 11 := by decide +kernel
theorem form_rng {op : Int} (h : okB op = true) : 0 <= formZ op /\ formZ op <= 11 := by
 rcases op_cases op with ⟨n, h1, h2, rfl⟩ | h'
 . exact form_rng' ⟨n, h2⟩ (by simp; omega)
 . rw [okB_out h'] at h; cases h
structure Fld (k : Int) (W : Int) (i : In) : Prop where
 rd0 : 0 <= i.rd
 rd1 : i.rd <= 31
 rdn : rdF k = false -> i.rd = 0
 a0 : 0 <= i.a
 a1 : i.a <= 31
 an : aF k = false -> i.a = 0
 b0 : 0 <= i.b
 b1 : i.b <= 31
 bn : bF k = false -> i.b = 0
 im : immB i.imm k = true
 aq : oF k = false -> i.aq = false /\ i.rl = false
 wd : wordOk k W = true
theorem reg_rng {r : Int} {u : Bool} (h : regB r u = true) : 0 <= r /\ r <= 31 /\ (u = false -> r = 0) := by
 unfold regB at h
 split at h
 . rename_i hu; simp only [decide_eq_true_eq] at h; exact ⟨h.1, h.2, fun hn => by rw [hu] at hn; cases hn⟩
 . simp only [decide_eq_true_eq] at h; subst h; exact ⟨by omega, by omega, fun _ => rfl⟩
theorem may_ok {i : In} (h : mayB i = true) : okB i.op = true := by unfold mayB at h; simp only [Bool.and_eq_true] at h; exact h.1
theorem may_fld {i : In} (h : mayB i = true) : Fld (formZ i.op) (wordZ i.op) i := by
 have ho := may_ok h
 unfold mayB at h
 simp only [Bool.and_eq_true, Bool.or_eq_true, Bool.not_eq_true'] at h
 obtain ⟨_, h1, h2, h3, h4, h5⟩ := h
 obtain ⟨r0, r1, r2⟩ := reg_rng h1
 obtain ⟨a0, a1, a2⟩ := reg_rng h2
 obtain ⟨b0, b1, b2⟩ := reg_rng h3
 exact ⟨r0, r1, r2, a0, a1, a2, b0, b1, b2, h4, fun hn => by rcases h5 with h5 | h5
                                                             . rw [hn] at h5; cases h5
                                                             . exact h5, wordOk_of ho⟩
def immRg (k v : Int) : Prop :=
 (k = 1 -> -524288 <= v /\ v < 524288) /\ (k = 2 -> -1048576 <= v /\ v < 1048576 /\ v % 2 = 0) /\ (k = 4 -> -4096 <= v /\ v < 4096 /\ v % 2 = 0) /\ (k = 3 \/ k = 5 -> -2048 <= v /\ v < 2048) /\ (k = 7 -> 0 <= v /\ v < 64) /\ (k = 8 -> 0 <= v /\ v < 32) /\ (k = 9 -> 0 <= v /\ v < 256) /\ (k = 0 \/ k = 6 \/ k = 10 \/ k = 11 -> v = 0)
theorem fitZ_rng {v : Int} (n : Nat) (h : fitZ v n = true) (h1 : 1 <= n) (h2 : n <= 64) : -((2 ^ (n - 1) : Nat) : Int) <= v /\ v < ((2 ^ (n - 1) : Nat) : Int) := by
 unfold fitZ at h
 rw [if_pos (by omega), Int.toNat_natCast] at h
 exact (fitsB_iff v n).mp h
theorem even_mod {v : Int} (h : evenB v = true) : v % 2 = 0 := by
 unfold evenB at h
 simp only [beq_iff_eq] at h
 exact Int.emod_eq_zero_of_dvd (Int.dvd_of_tmod_eq_zero h)
theorem imm_rng {k v : Int} (h : immB v k = true) (h0 : 0 <= k) (h1 : k <= 11) : immRg k v := by
 have hk : k = 0 \/ k = 1 \/ k = 2 \/ k = 3 \/ k = 4 \/ k = 5 \/ k = 6 \/ k = 7 \/ k = 8 \/ k = 9 \/ k = 10 \/ k = 11 := by omega
 unfold immRg
 rcases hk with rfl | rfl | rfl | rfl | rfl | rfl | rfl | rfl | rfl | rfl | rfl | rfl
 all_goals simp [immB, btwB] at h
 . subst h; simp
 . have := fitZ_rng 20 h (by omega) (by omega); simp at this; omega
 . have := fitZ_rng 21 h.2 (by omega) (by omega); have := even_mod h.1; simp at *; omega
 . have := fitZ_rng 12 h (by omega) (by omega); simp at this; omega
 . have := fitZ_rng 13 h.2 (by omega) (by omega); have := even_mod h.1; simp at *; omega
 . have := fitZ_rng 12 h (by omega) (by omega); simp at this; omega
 all_goals omega
theorem parts_j (v : Int) (h0 : -1048576 <= v) (h1 : v < 1048576) (h2 : v % 2 = 0) : ∃ s p q r : Int, v / 1048576 % 2 = s /\ v / 4096 % 256 = p /\ v / 2048 % 2 = q /\ v / 2 % 1024 = r /\ v = s * 1048576 + r * 2 + q * 2048 + p * 4096 - 2 * s * 1048576 /\ 0 <= s /\ s < 2 /\ 0 <= p /\ p < 256 /\ 0 <= q /\ q < 2 /\ 0 <= r /\ r < 1024 :=
 ⟨_, _, _, _, rfl, rfl, rfl, rfl, by omega, by omega, by omega, by omega, by omega, by omega, by omega, by omega, by omega⟩
theorem parts_b (v : Int) (h0 : -4096 <= v) (h1 : v < 4096) (h2 : v % 2 = 0) : ∃ s p q r : Int, v / 4096 % 2 = s /\ v / 2048 % 2 = q /\ v / 32 % 64 = p /\ v / 2 % 16 = r /\ v = s * 4096 + p * 32 + r * 2 + q * 2048 - 2 * s * 4096 /\ 0 <= s /\ s < 2 /\ 0 <= p /\ p < 64 /\ 0 <= q /\ q < 2 /\ 0 <= r /\ r < 16 :=
 ⟨_, _, _, _, rfl, rfl, rfl, rfl, by omega, by omega, by omega, by omega, by omega, by omega, by omega, by omega, by omega⟩
theorem parts_w (W : Int) (h0 : 0 <= W) (h1 : W < 32768) (h2 : W / 128 % 32 = 0) : ∃ o f : Int, W = o + f * 4096 /\ 0 <= o /\ o < 128 /\ 0 <= f /\ f < 8 :=
 ⟨W % 128, W / 4096, by omega, by omega, by omega, by omega, by omega⟩
theorem parts_w2 (W : Int) (m p : Int) (h0 : 0 <= W) (h1 : W < 4294967296) (h2 : W / 128 % 32 = 0) (hm : m = 1024 /\ p = 33554432 \/ m = 2048 /\ p = 67108864 \/ m = 4096 /\ p = 134217728) (h3 : W / 32768 % m = 0) : ∃ o f g : Int, W = o + f * 4096 + g * p /\ 0 <= o /\ o < 128 /\ 0 <= f /\ f < 8 /\ 0 <= g /\ g * p < 4294967296 := by
 rcases hm with ⟨rfl, rfl⟩ | ⟨rfl, rfl⟩ | ⟨rfl, rfl⟩
 . exact ⟨W % 128, W / 4096 % 8, W / 33554432, by omega, by omega, by omega, by omega, by omega, by omega, by omega⟩
 . exact ⟨W % 128, W / 4096 % 8, W / 67108864, by omega, by omega, by omega, by omega, by omega, by omega, by omega⟩
 . exact ⟨W % 128, W / 4096 % 8, W / 134217728, by omega, by omega, by omega, by omega, by omega, by omega, by omega⟩
end Go.Proofs.YtilljoemebbnjaaDoor
