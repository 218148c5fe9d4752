/- Contracts of the answers by definition for layer 5. -/
import Derived.Test.YtimgongaenpgkaaDoorRef04
namespace Go.Proofs.YtimgongaenpgkaaDoor
open Go.RowKit Sim
set_option linter.unusedVariables false
set_option linter.unusedSimpArgs false

theorem ref5Bits_any (v f c a : Nat) (w : World) (hv : v < 4294967296) (h1 : f + c ≤ 64) (h2 : a + c ≤ 62) :
    Calls Tryd.prog 31 #[.int .u32 v, .int .i64 f, .int .i64 c, .int .i64 a] w fun e w' => e = .returned (.int .i64 (partN v f c a : Nat)) ∧ w = w' := by
  go_enter Tryd.func31, Tryd.ntmps31
  go_wp2
  go_loop [9, 10] (fun o k => ∃ j : Nat, j ≤ c ∧ k = .int .i64 j ∧ o = .int .i64 (partN v f j a : Nat)) (fun _ k => c - (intOf k).toNat)
  case atStart => exact ⟨0, Nat.zero_le _, rfl, by rw [partN_zero]; rfl⟩
  case round =>
    obtain ⟨j, hj, rfl, rfl⟩ := hrel
    have hp1 := partN_lt v f j a
    have hp2 := powN_le (a + j) 62 (by omega)
    have h62 : powN 62 = 4611686018427387904 := by decide
    rw [h62] at hp2
    have hb : bitN v (f + j) = 0 ∨ bitN v (f + j) = 1 := by have := bitN_lt v (f + j); omega
    have hs := hid (partN_succ v f j a)
    have hpc := hid (fun (h : j < c) W => refPower_any (a + j) W (by omega))
    have hcast := hid (show (f : Int) + j = ((f + j : Nat) : Int) by omega)
    have hcast2 := hid (show (a : Int) + j = ((a + j : Nat) : Int) by omega)
    rw [show (2 ^ (a + j) : Nat) = powN (a + j) from rfl] at hpc
    by_cases hl : j < c
    · have hc := hid (fun W => refBit_any v (f + j) W (by omega) (by omega))
      rcases hb with hb | hb
      all_goals
        rw [hb] at hs hc
        clear hb
        go_wp2_with (first | (go_at_call 34; rw [hcast.out]; refine (hc.out _).mono ?_; rintro e w' ⟨rfl, rfl⟩) | (go_at_call 58; rw [hcast2.out]; refine (hpc.out hl _).mono ?_; rintro e w' ⟨rfl, rfl⟩))
        go_round
        case rel => exact ⟨j + 1, by omega, by go_num, by rw [hs.out]; go_num⟩
        case measure => simp [intOf]; omega
    · go_wp2
      go_ret
      obtain rfl : c = j := by omega
      exact ⟨rfl, rfl⟩
theorem bit5Z_ex : ∃ g : Int → Int → Int → Int → Int, ∀ v f c a, g v f c a = (partN v.toNat f.toNat c.toNat a.toNat : Nat) := ⟨_, fun _ _ _ _ => rfl⟩
noncomputable def bit5Z : Int → Int → Int → Int → Int := Classical.choose bit5Z_ex
theorem bit5Z_eq (v f c a : Int) : bit5Z v f c a = (partN v.toNat f.toNat c.toNat a.toNat : Nat) := Classical.choose_spec bit5Z_ex v f c a
def w32B (v : Int) : Bool := decide (0 ≤ v ∧ v < 4294967296)
noncomputable def decBit5 : List Value → Option (Value × Bool)
  | [.int .u32 v, .int .i64 f, .int .i64 c, .int .i64 a] => some (.int .i64 (bit5Z v f c a), pre (w32B v && bitsC f c a))
  | _ => none
noncomputable def pRef5Bits : PTab := prowD 31 decBit5
theorem pRef5Bits_ok {gl : Gl} : PTabOk Tryd.prog gl pRef5Bits := .rowD fun args u hd w hG => by
  unfold decBit5 at hd
  split at hd
  · rename_i v f c a
    simp only [Option.some.injEq, Prod.mk.injEq, pre] at hd
    obtain ⟨rfl, hc⟩ := hd
    simp [bitsC, w32B] at hc
    obtain ⟨⟨v0, v1⟩, f0, c0, a0, h1, h2⟩ := hc
    obtain ⟨v, rfl⟩ := Int.eq_ofNat_of_zero_le v0
    obtain ⟨f, rfl⟩ := Int.eq_ofNat_of_zero_le f0
    obtain ⟨c, rfl⟩ := Int.eq_ofNat_of_zero_le c0
    obtain ⟨a, rfl⟩ := Int.eq_ofNat_of_zero_le a0
    refine (Ret.of_same (ref5Bits_any v f c a w (by omega) (by omega) (by omega))).of_eq ?_
    rw [bit5Z_eq, Int.toNat_natCast, Int.toNat_natCast, Int.toNat_natCast, Int.toNat_natCast]
  · cases hd
theorem signZ_ex : ∃ g : Int → Int → Int, ∀ x n, g x n = signN x.toNat n.toNat := ⟨_, fun _ _ => rfl⟩
noncomputable def signZ : Int → Int → Int := Classical.choose signZ_ex
theorem signZ_eq (x n : Int) : signZ x n = signN x.toNat n.toNat := Classical.choose_spec signZ_ex x n
def signC (x n : Int) : Bool := decide (0 ≤ x ∧ x < 18446744073709551616 ∧ 1 ≤ n ∧ n ≤ 32)
theorem signC_wrap (x n : Int) : signC (IntKind.u64.wrap x) n = decide (1 ≤ n ∧ n ≤ 32) := by
  have h : 0 ≤ IntKind.u64.wrap x ∧ IntKind.u64.wrap x < 18446744073709551616 := by
    have : IntKind.u64.wrap x = x % 18446744073709551616 := rfl
    omega
  simp [signC, h.1, h.2]
noncomputable def decSign5 : List Value → Option (Value × Bool)
  | [.int .u64 x, .int .i64 n] => some (.int .i64 (signZ x n), pre (signC x n))
  | _ => none
noncomputable def pRefSign : PTab := prowD 56 decSign5
theorem pRefSign_ok {gl : Gl} : PTabOk Tryd.prog gl pRefSign := .rowD fun args u hd w hG => by
  unfold decSign5 at hd
  split at hd
  · rename_i x n
    simp only [Option.some.injEq, Prod.mk.injEq, pre] at hd
    obtain ⟨rfl, hc⟩ := hd
    simp [signC] at hc
    obtain ⟨x0, x1, n0, n1⟩ := hc
    obtain ⟨x, rfl⟩ := Int.eq_ofNat_of_zero_le x0
    obtain ⟨n, rfl⟩ := Int.eq_ofNat_of_zero_le (show 0 ≤ n by omega)
    refine (Ret.of_same (refSign_any x n w (by omega) (by omega) (by omega))).of_eq ?_
    rw [signZ_eq, Int.toNat_natCast, Int.toNat_natCast]
  · cases hd
noncomputable def pRef5ImmC : PTab := orP pRef5Bits pRefSign
theorem pRef5ImmC_ok {gl : Gl} : PTabOk Tryd.prog gl pRef5ImmC := pRef5Bits_ok.or pRefSign_ok
noncomputable def imm5Z (k v : Int) : Int :=
  bif k == 1 then signZ (IntKind.u64.wrap (bit5Z v 12 20 0)) 20
  else bif k == 2 then signZ (IntKind.u64.wrap (IntKind.i64.wrap (IntKind.i64.wrap (IntKind.i64.wrap (bit5Z v 31 1 20 + bit5Z v 21 10 1) + bit5Z v 20 1 11) + bit5Z v 12 8 12))) 21
  else bif k == 3 then signZ (IntKind.u64.wrap (bit5Z v 20 12 0)) 12
  else bif k == 4 then signZ (IntKind.u64.wrap (IntKind.i64.wrap (IntKind.i64.wrap (IntKind.i64.wrap (bit5Z v 31 1 12 + bit5Z v 25 6 5) + bit5Z v 8 4 1) + bit5Z v 7 1 11))) 13
  else bif k == 5 then signZ (IntKind.u64.wrap (IntKind.i64.wrap (bit5Z v 25 7 5 + bit5Z v 7 5 0))) 12
  else bif k == 7 then bit5Z v 20 6 0
  else bif k == 8 then bit5Z v 20 5 0
  else bif k == 9 then bit5Z v 20 8 0
  else 0
theorem imm5_ret {gl : Gl} (k v : Int) (hv : w32B v = true) (w : World) (hG : GlobOk gl w) : Ret Tryd.prog 29 #[.int .u32 v, .int .i64 k] (.int .i64 (imm5Z k v)) w := by
  --was 20 "P (TabOk.none _ _) pRef5ImmC_ok (fuel := 1000)" "[[true], [true]]" "pre, hv, signC_wrap, bitsC; imm5Z" fun (k : Int) (v : Int) (hv : w32B v = true) (p : List Bool) => simCall (E_gen (fun _ => none) (fun _ _ => none) pRef5ImmC) 1000 [[true], [true]] p 29 [.int .u32 v, .int .i64 k]
  rcases Bool.eq_false_or_eq_true (k == 1) with h0 | h0
  · exact (retP (TabOk.none _ _) pRef5ImmC_ok (fuel := 1000) [[true], [true]] [true] (v := .int .i64 (signZ (IntKind.u64.wrap (bit5Z v 12 20 0)) 20)) [(pre (signC (IntKind.u64.wrap (bit5Z v 12 20 0)) 20), true), (pre (w32B v && bitsC 12 20 0), true), (k == 1, true)] (by kernel_rfl) (by simp [pre, hv, signC_wrap, bitsC, hv, h0]) w hG).of_eq (by first | (simp only [imm5Z, pre, hv, signC_wrap, bitsC, hv, h0]; rfl) | simp [imm5Z, pre, hv, signC_wrap, bitsC, hv, h0])
  · rcases Bool.eq_false_or_eq_true (k == 2) with h1 | h1
    · exact (retP (TabOk.none _ _) pRef5ImmC_ok (fuel := 1000) [[true], [true]] [false, true] (v := .int .i64 (signZ (IntKind.u64.wrap (IntKind.i64.wrap (IntKind.i64.wrap (IntKind.i64.wrap (bit5Z v 31 1 20 + bit5Z v 21 10 1) + bit5Z v 20 1 11) + bit5Z v 12 8 12))) 21)) [(pre (signC (IntKind.u64.wrap (IntKind.i64.wrap (IntKind.i64.wrap (IntKind.i64.wrap (bit5Z v 31 1 20 + bit5Z v 21 10 1) + bit5Z v 20 1 11) + bit5Z v 12 8 12))) 21), true), (pre (w32B v && bitsC 12 8 12), true), (pre (w32B v && bitsC 20 1 11), true), (pre (w32B v && bitsC 21 10 1), true), (pre (w32B v && bitsC 31 1 20), true), (k == 2, true), (k == 1, false)] (by kernel_rfl) (by simp [pre, hv, signC_wrap, bitsC, hv, h0, h1]) w hG).of_eq (by first | (simp only [imm5Z, pre, hv, signC_wrap, bitsC, hv, h0, h1]; rfl) | simp [imm5Z, pre, hv, signC_wrap, bitsC, hv, h0, h1])
    · rcases Bool.eq_false_or_eq_true (k == 3) with h2 | h2
      · exact (retP (TabOk.none _ _) pRef5ImmC_ok (fuel := 1000) [[true], [true]] [false, false, true] (v := .int .i64 (signZ (IntKind.u64.wrap (bit5Z v 20 12 0)) 12)) [(pre (signC (IntKind.u64.wrap (bit5Z v 20 12 0)) 12), true), (pre (w32B v && bitsC 20 12 0), true), (k == 3, true), (k == 2, false), (k == 1, false)] (by kernel_rfl) (by simp [pre, hv, signC_wrap, bitsC, hv, h0, h1, h2]) w hG).of_eq (by first | (simp only [imm5Z, pre, hv, signC_wrap, bitsC, hv, h0, h1, h2]; rfl) | simp [imm5Z, pre, hv, signC_wrap, bitsC, hv, h0, h1, h2])
      · rcases Bool.eq_false_or_eq_true (k == 4) with h3 | h3
        · exact (retP (TabOk.none _ _) pRef5ImmC_ok (fuel := 1000) [[true], [true]] [false, false, false, true] (v := .int .i64 (signZ (IntKind.u64.wrap (IntKind.i64.wrap (IntKind.i64.wrap (IntKind.i64.wrap (bit5Z v 31 1 12 + bit5Z v 25 6 5) + bit5Z v 8 4 1) + bit5Z v 7 1 11))) 13)) [(pre (signC (IntKind.u64.wrap (IntKind.i64.wrap (IntKind.i64.wrap (IntKind.i64.wrap (bit5Z v 31 1 12 + bit5Z v 25 6 5) + bit5Z v 8 4 1) + bit5Z v 7 1 11))) 13), true), (pre (w32B v && bitsC 7 1 11), true), (pre (w32B v && bitsC 8 4 1), true), (pre (w32B v && bitsC 25 6 5), true), (pre (w32B v && bitsC 31 1 12), true), (k == 4, true), (k == 3, false), (k == 2, false), (k == 1, false)] (by kernel_rfl) (by simp [pre, hv, signC_wrap, bitsC, hv, h0, h1, h2, h3]) w hG).of_eq (by first | (simp only [imm5Z, pre, hv, signC_wrap, bitsC, hv, h0, h1, h2, h3]; rfl) | simp [imm5Z, pre, hv, signC_wrap, bitsC, hv, h0, h1, h2, h3])
        · rcases Bool.eq_false_or_eq_true (k == 5) with h4 | h4
          · exact (retP (TabOk.none _ _) pRef5ImmC_ok (fuel := 1000) [[true], [true]] [false, false, false, false, true] (v := .int .i64 (signZ (IntKind.u64.wrap (IntKind.i64.wrap (bit5Z v 25 7 5 + bit5Z v 7 5 0))) 12)) [(pre (signC (IntKind.u64.wrap (IntKind.i64.wrap (bit5Z v 25 7 5 + bit5Z v 7 5 0))) 12), true), (pre (w32B v && bitsC 7 5 0), true), (pre (w32B v && bitsC 25 7 5), true), (k == 5, true), (k == 4, false), (k == 3, false), (k == 2, false), (k == 1, false)] (by kernel_rfl) (by simp [pre, hv, signC_wrap, bitsC, hv, h0, h1, h2, h3, h4]) w hG).of_eq (by first | (simp only [imm5Z, pre, hv, signC_wrap, bitsC, hv, h0, h1, h2, h3, h4]; rfl) | simp [imm5Z, pre, hv, signC_wrap, bitsC, hv, h0, h1, h2, h3, h4])
          · rcases Bool.eq_false_or_eq_true (k == 7) with h5 | h5
            · exact (retP (TabOk.none _ _) pRef5ImmC_ok (fuel := 1000) [[true], [true]] [false, false, false, false, false, true] (v := .int .i64 (bit5Z v 20 6 0)) [(pre (w32B v && bitsC 20 6 0), true), (k == 7, true), (k == 5, false), (k == 4, false), (k == 3, false), (k == 2, false), (k == 1, false)] (by kernel_rfl) (by simp [pre, hv, signC_wrap, bitsC, hv, h0, h1, h2, h3, h4, h5]) w hG).of_eq (by first | (simp only [imm5Z, pre, hv, signC_wrap, bitsC, hv, h0, h1, h2, h3, h4, h5]; rfl) | simp [imm5Z, pre, hv, signC_wrap, bitsC, hv, h0, h1, h2, h3, h4, h5])
            · rcases Bool.eq_false_or_eq_true (k == 8) with h6 | h6
              · exact (retP (TabOk.none _ _) pRef5ImmC_ok (fuel := 1000) [[true], [true]] [false, false, false, false, false, false, true] (v := .int .i64 (bit5Z v 20 5 0)) [(pre (w32B v && bitsC 20 5 0), true), (k == 8, true), (k == 7, false), (k == 5, false), (k == 4, false), (k == 3, false), (k == 2, false), (k == 1, false)] (by kernel_rfl) (by simp [pre, hv, signC_wrap, bitsC, hv, h0, h1, h2, h3, h4, h5, h6]) w hG).of_eq (by first | (simp only [imm5Z, pre, hv, signC_wrap, bitsC, hv, h0, h1, h2, h3, h4, h5, h6]; rfl) | simp [imm5Z, pre, hv, signC_wrap, bitsC, hv, h0, h1, h2, h3, h4, h5, h6])
              · rcases Bool.eq_false_or_eq_true (k == 9) with h7 | h7
                · exact (retP (TabOk.none _ _) pRef5ImmC_ok (fuel := 1000) [[true], [true]] [false, false, false, false, false, false, false, true] (v := .int .i64 (bit5Z v 20 8 0)) [(pre (w32B v && bitsC 20 8 0), true), (k == 9, true), (k == 8, false), (k == 7, false), (k == 5, false), (k == 4, false), (k == 3, false), (k == 2, false), (k == 1, false)] (by kernel_rfl) (by simp [pre, hv, signC_wrap, bitsC, hv, h0, h1, h2, h3, h4, h5, h6, h7]) w hG).of_eq (by first | (simp only [imm5Z, pre, hv, signC_wrap, bitsC, hv, h0, h1, h2, h3, h4, h5, h6, h7]; rfl) | simp [imm5Z, pre, hv, signC_wrap, bitsC, hv, h0, h1, h2, h3, h4, h5, h6, h7])
                · exact (retP (TabOk.none _ _) pRef5ImmC_ok (fuel := 1000) [[true], [true]] [false, false, false, false, false, false, false, false] (v := .int .i64 (0)) [(k == 9, false), (k == 8, false), (k == 7, false), (k == 5, false), (k == 4, false), (k == 3, false), (k == 2, false), (k == 1, false)] (by kernel_rfl) (by simp [pre, hv, signC_wrap, bitsC, hv, h0, h1, h2, h3, h4, h5, h6, h7]) w hG).of_eq (by first | (simp only [imm5Z, pre, hv, signC_wrap, bitsC, hv, h0, h1, h2, h3, h4, h5, h6, h7]; rfl) | simp [imm5Z, pre, hv, signC_wrap, bitsC, hv, h0, h1, h2, h3, h4, h5, h6, h7])
theorem bit5_lit (v f c a p q r : Int) (hv : w32B v = true) (h : ((2 ^ f.toNat : Nat) : Int) = p ∧ ((2 ^ c.toNat : Nat) : Int) = q ∧ ((2 ^ a.toNat : Nat) : Int) = r) : bit5Z v f c a = v / p % q * r := by
  obtain ⟨rfl, rfl, rfl⟩ := h
  simp [w32B] at hv
  obtain ⟨v, rfl⟩ := Int.eq_ofNat_of_zero_le hv.1
  rw [bit5Z_eq, Int.toNat_natCast]
  unfold partN
  push_cast
  rfl
theorem sign_lit (x n P : Int) (hp : ((2 ^ (n.toNat - 1) : Nat) : Int) = P) (hP : P ≤ 4294967296) (x0 : 0 ≤ x) (x1 : x < 2 * P) : signZ (IntKind.u64.wrap x) n = sgn x P := by
  have hw : IntKind.u64.wrap x = x := by
    have : IntKind.u64.wrap x = x % 18446744073709551616 := rfl
    omega
  rw [hw, signZ_eq]
  obtain ⟨x, rfl⟩ := Int.eq_ofNat_of_zero_le x0
  rw [Int.toNat_natCast]
  unfold signN bitN sgn
  have hpos := Nat.two_pow_pos (n.toNat - 1)
  have hc : (2 : Int) ^ (n.toNat - 1) = ((2 ^ (n.toNat - 1) : Nat) : Int) := by push_cast; rfl
  rw [hc]
  clear hc
  generalize 2 ^ (n.toNat - 1) = Q at *
  subst hp
  rcases Nat.lt_or_ge x Q with h | h
  · have e1 : x / Q = 0 := Nat.div_eq_of_lt h
    have e2 : x % Q = x := Nat.mod_eq_of_lt h
    rw [e1, e2, if_pos (by omega)]; simp
  · have e1 : x / Q = 1 := by
      have h1 : x / Q < 2 := (Nat.div_lt_iff_lt_mul hpos).mpr (by omega)
      have h2 : 1 ≤ x / Q := (Nat.le_div_iff_mul_le hpos).mpr (by omega)
      omega
    have e2 : x % Q = x - Q := by
      have := Nat.div_add_mod x Q
      rw [e1] at this
      omega
    rw [e1, e2, if_neg (by omega)]
    have : ((x - Q : Nat) : Int) = (x : Int) - Q := by omega
    rw [this]
    simp
    omega
theorem wrap_id (x : Int) (h0 : 0 ≤ x) (h1 : x < 4294967296) : IntKind.i64.wrap x = x := IntWalk.i64_in _ (by omega)
theorem imm5_eq (k v : Int) (hv : w32B v = true) : imm5Z k v = immD k v := by
  have hr : 0 ≤ v ∧ v < 4294967296 := by simpa [w32B] using hv
  unfold imm5Z immD
  have L := fun f c a p q r h => bit5_lit v f c a p q r hv h
  cases h1 : k == 1
  case true =>
    simp only [cond_true]
    rw [L 12 20 0 4096 1048576 1 (by decide), sign_lit _ 20 524288 (by decide) (by omega) (by omega) (by omega)]
    congr 1; omega
  simp only [cond_false]
  cases h2 : k == 2
  case true =>
    simp only [cond_true]
    rw [L 31 1 20 2147483648 2 1048576 (by decide), L 21 10 1 2097152 1024 2 (by decide), L 20 1 11 1048576 2 2048 (by decide), L 12 8 12 4096 256 4096 (by decide)]
    rw [wrap_id (v / 2147483648 % 2 * 1048576 + v / 2097152 % 1024 * 2) (by omega) (by omega), wrap_id (v / 2147483648 % 2 * 1048576 + v / 2097152 % 1024 * 2 + v / 1048576 % 2 * 2048) (by omega) (by omega), wrap_id _ (by omega) (by omega)]
    rw [sign_lit _ 21 1048576 (by decide) (by omega) (by omega) (by omega)]
  simp only [cond_false]
  cases h3 : k == 3
  case true =>
    simp only [cond_true]
    rw [L 20 12 0 1048576 4096 1 (by decide), sign_lit _ 12 2048 (by decide) (by omega) (by omega) (by omega)]
    congr 1; omega
  simp only [cond_false]
  cases h4 : k == 4
  case true =>
    simp only [cond_true]
    rw [L 31 1 12 2147483648 2 4096 (by decide), L 25 6 5 33554432 64 32 (by decide), L 8 4 1 256 16 2 (by decide), L 7 1 11 128 2 2048 (by decide)]
    rw [wrap_id (v / 2147483648 % 2 * 4096 + v / 33554432 % 64 * 32) (by omega) (by omega), wrap_id (v / 2147483648 % 2 * 4096 + v / 33554432 % 64 * 32 + v / 256 % 16 * 2) (by omega) (by omega), wrap_id _ (by omega) (by omega)]
    rw [sign_lit _ 13 4096 (by decide) (by omega) (by omega) (by omega)]
  simp only [cond_false]
  cases h5 : k == 5
  case true =>
    simp only [cond_true]
    rw [L 25 7 5 33554432 128 32 (by decide), L 7 5 0 128 32 1 (by decide), wrap_id _ (by omega) (by omega), sign_lit _ 12 2048 (by decide) (by omega) (by omega) (by omega)]
    congr 1; omega
  simp only [cond_false]
  cases h7 : k == 7
  case true =>
    simp only [cond_true]
    rw [L 20 6 0 1048576 64 1 (by decide)]; omega
  simp only [cond_false]
  cases h8 : k == 8
  case true =>
    simp only [cond_true]
    rw [L 20 5 0 1048576 32 1 (by decide)]; omega
  simp only [cond_false]
  cases h9 : k == 9
  case true =>
    simp only [cond_true]
    rw [L 20 8 0 1048576 256 1 (by decide)]; omega
  rfl
noncomputable def decImm5 : List Value → Option (Value × Bool)
  | [.int .u32 v, .int .i64 k] => some (.int .i64 (immD k v), pre (w32B v))
  | _ => none
noncomputable def pRef5Imm : PTab := prowD 29 decImm5
theorem pRef5Imm_ok {gl : Gl} : PTabOk Tryd.prog gl pRef5Imm := .rowD fun args u hd w hG => by
  unfold decImm5 at hd
  split at hd
  · rename_i v k
    simp only [Option.some.injEq, Prod.mk.injEq, pre] at hd
    obtain ⟨rfl, hc⟩ := hd
    exact (imm5_ret k v hc w hG).of_eq (by rw [imm5_eq k v hc])
  · cases hd
theorem bitZ_ex : ∃ g : Int → Int → Int, ∀ x n, g x n = (bitN x.toNat n.toNat : Nat) := ⟨_, fun _ _ => rfl⟩
noncomputable def bitZ : Int → Int → Int := Classical.choose bitZ_ex
theorem bitZ_eq (x n : Int) : bitZ x n = (bitN x.toNat n.toNat : Nat) := Classical.choose_spec bitZ_ex x n
def bitC (x n : Int) : Bool := decide (0 ≤ x ∧ x < 18446744073709551616 ∧ 0 ≤ n ∧ n ≤ 64)
noncomputable def decBitZ : List Value → Option (Value × Bool)
  | [.int .u64 x, .int .i64 n] => some (.int .i64 (bitZ x n), pre (bitC x n))
  | _ => none
noncomputable def pRefBit : PTab := prowD 34 decBitZ
theorem pRefBit_ok {gl : Gl} : PTabOk Tryd.prog gl pRefBit := .rowD fun args u hd w hG => by
  unfold decBitZ at hd
  split at hd
  · rename_i x n
    simp only [Option.some.injEq, Prod.mk.injEq, pre] at hd
    obtain ⟨rfl, hc⟩ := hd
    simp [bitC] at hc
    obtain ⟨x0, x1, n0, n1⟩ := hc
    obtain ⟨x, rfl⟩ := Int.eq_ofNat_of_zero_le x0
    obtain ⟨n, rfl⟩ := Int.eq_ofNat_of_zero_le n0
    refine (Ret.of_same (refBit_any x n w (by omega) (by omega))).of_eq ?_
    rw [bitZ_eq, Int.toNat_natCast, Int.toNat_natCast]
  · cases hd
end Go.Proofs.YtimgongaenpgkaaDoor
