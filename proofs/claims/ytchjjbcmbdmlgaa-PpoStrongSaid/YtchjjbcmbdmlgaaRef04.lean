/- Contracts of the answers by definition for layer 4. -/
import Derived.Test.YtchjjbcmbdmlgaaK01
import Derived.Test.YtchjjbcmbdmlgaaRef03
set_option linter.unusedVariables false
set_option linter.unusedSimpArgs false
namespace Go.Proofs.Ytchjjbcmbdmlgaa
open Go.RowKit Sim
def tRefWords : Tab := row 91 dec0 fun _ => .agg ((wordL.drop 1).take 76 |>.map fun x => .int .u32 x).toArray
theorem tRefWords_ok {gl : Gl} : TabOk Try.prog gl tRefWords := tab0 fun w hG => ret (TabOk.none _ _) (fuel := 1000) [] [] (v := .agg ((wordL.drop 1).take 76 |>.map fun x => .int .u32 x).toArray) [] (by kernel_rfl) (fun _ h => by cases h) w hG
theorem refWord_in {gl : Gl} : (List.range 87).all (runs { P := Try.prog, glob := gl, call := tRefWords } 1000 75 (fun n => [.int .i64 ((n + 1 : Nat) : Int)]) fun n => .int .u32 (wordZ ((n + 1 : Nat) : Int))) = true := by kernel_rfl
def pRefWord : PTab := prow 75 decI (fun x => .int .u32 (wordZ x)) okB
theorem pRefWord_ok {gl : Gl} : PTabOk Try.prog gl pRefWord := .row (enc := fun x => [.int .i64 x]) (fun l a h => decI_eq h) fun x hc w hG => by
  rcases op_cases x with ⟨n, h1, h2, rfl⟩ | h
  · obtain ⟨m, rfl⟩ : ∃ m, n = m + 1 := ⟨n - 1, by omega⟩
    exact runs_ret tRefWords_ok refWord_in m (by omega) w hG
  · rw [okB_out h] at hc; cases hc
def partN (v f j a : Nat) : Nat := v / 2 ^ f % 2 ^ j * 2 ^ a
theorem partN_zero (v f a : Nat) : partN v f 0 a = 0 := by unfold partN; simp [Nat.mod_one]
theorem partN_succ (v f j a : Nat) : partN v f (j + 1) a = partN v f j a + powN (a + j) * bitN v (f + j) := by
  unfold partN powN bitN
  rw [Nat.pow_succ, Nat.mod_mul, Nat.add_mul, Nat.div_div_eq_div_mul, ← Nat.pow_add, Nat.pow_add 2 a j]
  congr 1
  rw [Nat.mul_comm (2 ^ j), Nat.mul_assoc, Nat.mul_comm, Nat.mul_comm (2 ^ j)]
theorem partN_lt (v f j a : Nat) : partN v f j a < powN (a + j) := by
  unfold partN powN
  rw [Nat.pow_add, Nat.mul_comm]
  exact (Nat.mul_lt_mul_left (Nat.two_pow_pos a)).mpr (Nat.mod_lt _ (Nat.two_pow_pos j))
theorem refBits_any (n : Int) (f c a : Nat) (w : World) (h1 : f + c ≤ 64) (h2 : a + c ≤ 62) :
    Calls Try.prog 96 #[.int .i64 n, .int .i64 f, .int .i64 c, .int .i64 a] w fun e w' => e = .returned (.int .u32 (partN (u64N n) f c a % 4294967296 : Nat)) ∧ w = w' := by
  have hu := hid (u64N_eq n)
  have hlt := u64N_lt n
  generalize hv : u64N n = v at *
  clear hv
  go_enter Try.func96, Try.ntmps96
  go_wp2
  go_loop [9, 10] (fun o k => ∃ j : Nat, j ≤ c ∧ k = .int .i64 j ∧ o = .int .u64 (partN v f j a : Nat)) (fun _ k => c - (intOf k).toNat)
  case atStart => exact ⟨0, Nat.zero_le _, rfl, by rw [partN_zero]; rfl⟩
  case round =>
    obtain ⟨j, hj, rfl, rfl⟩ := hrel
    have hp1 := partN_lt v f j a
    have hp2 := powN_le (a + j) 62 (by omega)
    have h62 : powN 62 = 4611686018427387904 := by decide
    rw [h62] at hp2
    have hb : bitN v (f + j) = 0 ∨ bitN v (f + j) = 1 := by have := bitN_lt v (f + j); omega
    have hs := hid (partN_succ v f j a)
    have hpc := hid (fun (h : j < c) W => refPower_any (a + j) W (by omega))
    have hcast := hid (show (f : Int) + j = ((f + j : Nat) : Int) by omega)
    have hcast2 := hid (show (a : Int) + j = ((a + j : Nat) : Int) by omega)
    rw [show (2 ^ (a + j) : Nat) = powN (a + j) from rfl] at hpc
    by_cases hl : j < c
    · have hc := hid (fun W => refBit_any v (f + j) W hlt (by omega))
      rcases hb with hb | hb
      all_goals
        rw [hb] at hs hc
        clear hb
        go_wp2_with (first | (go_at_call 81; rw [hu.out, hcast.out]; refine (hc.out _).mono ?_; rintro e w' ⟨rfl, rfl⟩) | (go_at_call 93; rw [hcast2.out]; refine (hpc.out hl _).mono ?_; rintro e w' ⟨rfl, rfl⟩))
        go_round
        case rel => exact ⟨j + 1, by omega, by go_num, by rw [hs.out]; go_num⟩
        case measure => simp [intOf]; omega
    · go_wp2
      go_ret
      obtain rfl : c = j := by omega
      exact ⟨ret_int (by omega), rfl⟩
theorem bitsZ_ex : ∃ g : Int → Int → Int → Int → Int, ∀ n f c a, g n f c a = ((partN (u64N n) f.toNat c.toNat a.toNat % 4294967296 : Nat) : Int) := ⟨_, fun _ _ _ _ => rfl⟩
noncomputable def bitsZ : Int → Int → Int → Int → Int := Classical.choose bitsZ_ex
theorem bitsZ_eq (n f c a : Int) : bitsZ n f c a = ((partN (u64N n) f.toNat c.toNat a.toNat % 4294967296 : Nat) : Int) := Classical.choose_spec bitsZ_ex n f c a
def bitsC (f c a : Int) : Bool := decide (0 ≤ f ∧ 0 ≤ c ∧ 0 ≤ a ∧ f + c ≤ 64 ∧ a + c ≤ 62)
noncomputable def decBits : List Value → Option (Value × Bool)
  | [.int .i64 n, .int .i64 f, .int .i64 c, .int .i64 a] => some (.int .u32 (bitsZ n f c a), pre (bitsC f c a))
  | _ => none
noncomputable def pRefBits : PTab := prowD 96 decBits
theorem pRefBits_ok {gl : Gl} : PTabOk Try.prog gl pRefBits := .rowD fun args u hd w hG => by
  unfold decBits at hd
  split at hd
  · rename_i n f c a
    simp only [Option.some.injEq, Prod.mk.injEq, pre] at hd
    obtain ⟨rfl, hc⟩ := hd
    simp [bitsC] at hc
    obtain ⟨f0, c0, a0, h1, h2⟩ := hc
    obtain ⟨f, rfl⟩ := Int.eq_ofNat_of_zero_le f0
    obtain ⟨c, rfl⟩ := Int.eq_ofNat_of_zero_le c0
    obtain ⟨a, rfl⟩ := Int.eq_ofNat_of_zero_le a0
    refine (Ret.of_same (refBits_any n f c a w (by omega) (by omega))).of_eq ?_
    rw [bitsZ_eq, Int.toNat_natCast, Int.toNat_natCast, Int.toNat_natCast]
  · cases hd
noncomputable def pRefEncC : PTab := orP pRefWord pRefBits
theorem pRefEncC_ok {gl : Gl} : PTabOk Try.prog gl pRefEncC := pRefWord_ok.or pRefBits_ok
def orW (x y : Int) : Int := IntKind.u32.wrap ((BitVec.ofInt 32 x ||| BitVec.ofInt 32 y).toNat : Int)
def anW (x y : Int) : Int := IntKind.u32.wrap ((BitVec.ofInt 32 x &&& ~~~BitVec.ofInt 32 y).toNat : Int)
noncomputable def ref0Z (i : In) : Int := orW (orW (orW (wordZ i.op) (bitsZ i.rd 0 5 7)) (bitsZ i.a 0 5 15)) (bitsZ i.b 0 5 20)
noncomputable def refZ (i : In) : Int :=
  bif formZ i.op == 1 then orW (ref0Z i) (bitsZ i.imm 0 20 12)
  else bif formZ i.op == 2 then orW (orW (orW (orW (ref0Z i) (bitsZ i.imm 20 1 31)) (bitsZ i.imm 1 10 21)) (bitsZ i.imm 11 1 20)) (bitsZ i.imm 12 8 12)
  else bif formZ i.op == 3 then orW (ref0Z i) (bitsZ i.imm 0 12 20)
  else bif formZ i.op == 4 then orW (orW (orW (orW (anW (ref0Z i) (bitsZ (-1) 0 5 7)) (bitsZ i.imm 12 1 31)) (bitsZ i.imm 5 6 25)) (bitsZ i.imm 1 4 8)) (bitsZ i.imm 11 1 7)
  else bif formZ i.op == 5 then orW (orW (anW (ref0Z i) (bitsZ (-1) 0 5 7)) (bitsZ i.imm 5 7 25)) (bitsZ i.imm 0 5 7)
  else bif formZ i.op == 7 then orW (ref0Z i) (bitsZ i.imm 0 6 20)
  else bif formZ i.op == 8 then orW (ref0Z i) (bitsZ i.imm 0 5 20)
  else bif formZ i.op == 9 then orW (ref0Z i) (bitsZ i.imm 0 8 20)
  else ref0Z i
theorem refEncode_plain {gl : Gl} (i : In) (hm : okB i.op = true) (hq : i.aq = false) (hr : i.rl = false) (w : World) (hG : GlobOk gl w) : Ret Try.prog 83 #[inV i] (.int .u32 (refZ i)) w := by
  rcases Bool.eq_false_or_eq_true (formZ i.op == 1) with h0 | h0
  · exact (retP tRefForm_ok pRefEncC_ok (fuel := 1000) OIn [true, false, false] (v := .int .u32 (IntKind.u32.wrap ↑(BitVec.ofInt 32 (IntKind.u32.wrap ↑(BitVec.ofInt 32 (IntKind.u32.wrap ↑(BitVec.ofInt 32 (IntKind.u32.wrap ↑(BitVec.ofInt 32 (wordZ i.op) ||| BitVec.ofInt 32 (bitsZ i.rd 0 5 7)).toNat) ||| BitVec.ofInt 32 (bitsZ i.a 0 5 15)).toNat) ||| BitVec.ofInt 32 (bitsZ i.b 0 5 20)).toNat) ||| BitVec.ofInt 32 (bitsZ i.imm 0 20 12)).toNat)) [(i.rl, false), (i.aq, false), (pre (bitsC 0 20 12), true), (formZ i.op == 1, true), (pre (bitsC 0 5 20), true), (pre (bitsC 0 5 15), true), (pre (bitsC 0 5 7), true), (pre (okB i.op), true)] (by kernel_rfl) (by simp [pre, bitsC, hm, hm, hq, hr, h0]) w hG).of_eq (by first | (simp only [refZ, ref0Z, orW, anW, pre, bitsC, hm, hm, hq, hr, h0]; rfl) | simp [refZ, ref0Z, orW, anW, pre, bitsC, hm, hm, hq, hr, h0])
  · rcases Bool.eq_false_or_eq_true (formZ i.op == 2) with h1 | h1
    · exact (retP tRefForm_ok pRefEncC_ok (fuel := 1000) OIn [false, true, false, false] (v := .int .u32 (IntKind.u32.wrap ↑(BitVec.ofInt 32 (IntKind.u32.wrap ↑(BitVec.ofInt 32 (IntKind.u32.wrap ↑(BitVec.ofInt 32 (IntKind.u32.wrap ↑(BitVec.ofInt 32 (IntKind.u32.wrap ↑(BitVec.ofInt 32 (IntKind.u32.wrap ↑(BitVec.ofInt 32 (IntKind.u32.wrap ↑(BitVec.ofInt 32 (wordZ i.op) ||| BitVec.ofInt 32 (bitsZ i.rd 0 5 7)).toNat) ||| BitVec.ofInt 32 (bitsZ i.a 0 5 15)).toNat) ||| BitVec.ofInt 32 (bitsZ i.b 0 5 20)).toNat) ||| BitVec.ofInt 32 (bitsZ i.imm 20 1 31)).toNat) ||| BitVec.ofInt 32 (bitsZ i.imm 1 10 21)).toNat) ||| BitVec.ofInt 32 (bitsZ i.imm 11 1 20)).toNat) ||| BitVec.ofInt 32 (bitsZ i.imm 12 8 12)).toNat)) [(i.rl, false), (i.aq, false), (pre (bitsC 12 8 12), true), (pre (bitsC 11 1 20), true), (pre (bitsC 1 10 21), true), (pre (bitsC 20 1 31), true), (formZ i.op == 2, true), (formZ i.op == 1, false), (pre (bitsC 0 5 20), true), (pre (bitsC 0 5 15), true), (pre (bitsC 0 5 7), true), (pre (okB i.op), true)] (by kernel_rfl) (by simp [pre, bitsC, hm, hm, hq, hr, h0, h1]) w hG).of_eq (by first | (simp only [refZ, ref0Z, orW, anW, pre, bitsC, hm, hm, hq, hr, h0, h1]; rfl) | simp [refZ, ref0Z, orW, anW, pre, bitsC, hm, hm, hq, hr, h0, h1])
    · rcases Bool.eq_false_or_eq_true (formZ i.op == 3) with h2 | h2
      · exact (retP tRefForm_ok pRefEncC_ok (fuel := 1000) OIn [false, false, true, false, false] (v := .int .u32 (IntKind.u32.wrap ↑(BitVec.ofInt 32 (IntKind.u32.wrap ↑(BitVec.ofInt 32 (IntKind.u32.wrap ↑(BitVec.ofInt 32 (IntKind.u32.wrap ↑(BitVec.ofInt 32 (wordZ i.op) ||| BitVec.ofInt 32 (bitsZ i.rd 0 5 7)).toNat) ||| BitVec.ofInt 32 (bitsZ i.a 0 5 15)).toNat) ||| BitVec.ofInt 32 (bitsZ i.b 0 5 20)).toNat) ||| BitVec.ofInt 32 (bitsZ i.imm 0 12 20)).toNat)) [(i.rl, false), (i.aq, false), (pre (bitsC 0 12 20), true), (formZ i.op == 3, true), (formZ i.op == 2, false), (formZ i.op == 1, false), (pre (bitsC 0 5 20), true), (pre (bitsC 0 5 15), true), (pre (bitsC 0 5 7), true), (pre (okB i.op), true)] (by kernel_rfl) (by simp [pre, bitsC, hm, hm, hq, hr, h0, h1, h2]) w hG).of_eq (by first | (simp only [refZ, ref0Z, orW, anW, pre, bitsC, hm, hm, hq, hr, h0, h1, h2]; rfl) | simp [refZ, ref0Z, orW, anW, pre, bitsC, hm, hm, hq, hr, h0, h1, h2])
      · rcases Bool.eq_false_or_eq_true (formZ i.op == 4) with h3 | h3
        · exact (retP tRefForm_ok pRefEncC_ok (fuel := 1000) OIn [false, false, false, true, false, false] (v := .int .u32 (IntKind.u32.wrap ↑(BitVec.ofInt 32 (IntKind.u32.wrap ↑(BitVec.ofInt 32 (IntKind.u32.wrap ↑(BitVec.ofInt 32 (IntKind.u32.wrap ↑(BitVec.ofInt 32 (IntKind.u32.wrap ↑(BitVec.ofInt 32 (IntKind.u32.wrap ↑(BitVec.ofInt 32 (IntKind.u32.wrap ↑(BitVec.ofInt 32 (IntKind.u32.wrap ↑(BitVec.ofInt 32 (wordZ i.op) ||| BitVec.ofInt 32 (bitsZ i.rd 0 5 7)).toNat) ||| BitVec.ofInt 32 (bitsZ i.a 0 5 15)).toNat) ||| BitVec.ofInt 32 (bitsZ i.b 0 5 20)).toNat) &&& ~~~BitVec.ofInt 32 (bitsZ (-1) 0 5 7)).toNat) ||| BitVec.ofInt 32 (bitsZ i.imm 12 1 31)).toNat) ||| BitVec.ofInt 32 (bitsZ i.imm 5 6 25)).toNat) ||| BitVec.ofInt 32 (bitsZ i.imm 1 4 8)).toNat) ||| BitVec.ofInt 32 (bitsZ i.imm 11 1 7)).toNat)) [(i.rl, false), (i.aq, false), (pre (bitsC 11 1 7), true), (pre (bitsC 1 4 8), true), (pre (bitsC 5 6 25), true), (pre (bitsC 12 1 31), true), (pre (bitsC 0 5 7), true), (formZ i.op == 4, true), (formZ i.op == 3, false), (formZ i.op == 2, false), (formZ i.op == 1, false), (pre (bitsC 0 5 20), true), (pre (bitsC 0 5 15), true), (pre (bitsC 0 5 7), true), (pre (okB i.op), true)] (by kernel_rfl) (by simp [pre, bitsC, hm, hm, hq, hr, h0, h1, h2, h3]) w hG).of_eq (by first | (simp only [refZ, ref0Z, orW, anW, pre, bitsC, hm, hm, hq, hr, h0, h1, h2, h3]; rfl) | simp [refZ, ref0Z, orW, anW, pre, bitsC, hm, hm, hq, hr, h0, h1, h2, h3])
        · rcases Bool.eq_false_or_eq_true (formZ i.op == 5) with h4 | h4
          · exact (retP tRefForm_ok pRefEncC_ok (fuel := 1000) OIn [false, false, false, false, true, false, false] (v := .int .u32 (IntKind.u32.wrap ↑(BitVec.ofInt 32 (IntKind.u32.wrap ↑(BitVec.ofInt 32 (IntKind.u32.wrap ↑(BitVec.ofInt 32 (IntKind.u32.wrap ↑(BitVec.ofInt 32 (IntKind.u32.wrap ↑(BitVec.ofInt 32 (IntKind.u32.wrap ↑(BitVec.ofInt 32 (wordZ i.op) ||| BitVec.ofInt 32 (bitsZ i.rd 0 5 7)).toNat) ||| BitVec.ofInt 32 (bitsZ i.a 0 5 15)).toNat) ||| BitVec.ofInt 32 (bitsZ i.b 0 5 20)).toNat) &&& ~~~BitVec.ofInt 32 (bitsZ (-1) 0 5 7)).toNat) ||| BitVec.ofInt 32 (bitsZ i.imm 5 7 25)).toNat) ||| BitVec.ofInt 32 (bitsZ i.imm 0 5 7)).toNat)) [(i.rl, false), (i.aq, false), (pre (bitsC 0 5 7), true), (pre (bitsC 5 7 25), true), (pre (bitsC 0 5 7), true), (formZ i.op == 5, true), (formZ i.op == 4, false), (formZ i.op == 3, false), (formZ i.op == 2, false), (formZ i.op == 1, false), (pre (bitsC 0 5 20), true), (pre (bitsC 0 5 15), true), (pre (bitsC 0 5 7), true), (pre (okB i.op), true)] (by kernel_rfl) (by simp [pre, bitsC, hm, hm, hq, hr, h0, h1, h2, h3, h4]) w hG).of_eq (by first | (simp only [refZ, ref0Z, orW, anW, pre, bitsC, hm, hm, hq, hr, h0, h1, h2, h3, h4]; rfl) | simp [refZ, ref0Z, orW, anW, pre, bitsC, hm, hm, hq, hr, h0, h1, h2, h3, h4])
          · rcases Bool.eq_false_or_eq_true (formZ i.op == 7) with h5 | h5
            · exact (retP tRefForm_ok pRefEncC_ok (fuel := 1000) OIn [false, false, false, false, false, true, false, false] (v := .int .u32 (IntKind.u32.wrap ↑(BitVec.ofInt 32 (IntKind.u32.wrap ↑(BitVec.ofInt 32 (IntKind.u32.wrap ↑(BitVec.ofInt 32 (IntKind.u32.wrap ↑(BitVec.ofInt 32 (wordZ i.op) ||| BitVec.ofInt 32 (bitsZ i.rd 0 5 7)).toNat) ||| BitVec.ofInt 32 (bitsZ i.a 0 5 15)).toNat) ||| BitVec.ofInt 32 (bitsZ i.b 0 5 20)).toNat) ||| BitVec.ofInt 32 (bitsZ i.imm 0 6 20)).toNat)) [(i.rl, false), (i.aq, false), (pre (bitsC 0 6 20), true), (formZ i.op == 7, true), (formZ i.op == 5, false), (formZ i.op == 4, false), (formZ i.op == 3, false), (formZ i.op == 2, false), (formZ i.op == 1, false), (pre (bitsC 0 5 20), true), (pre (bitsC 0 5 15), true), (pre (bitsC 0 5 7), true), (pre (okB i.op), true)] (by kernel_rfl) (by simp [pre, bitsC, hm, hm, hq, hr, h0, h1, h2, h3, h4, h5]) w hG).of_eq (by first | (simp only [refZ, ref0Z, orW, anW, pre, bitsC, hm, hm, hq, hr, h0, h1, h2, h3, h4, h5]; rfl) | simp [refZ, ref0Z, orW, anW, pre, bitsC, hm, hm, hq, hr, h0, h1, h2, h3, h4, h5])
            · rcases Bool.eq_false_or_eq_true (formZ i.op == 8) with h6 | h6
              · exact (retP tRefForm_ok pRefEncC_ok (fuel := 1000) OIn [false, false, false, false, false, false, true, false, false] (v := .int .u32 (IntKind.u32.wrap ↑(BitVec.ofInt 32 (IntKind.u32.wrap ↑(BitVec.ofInt 32 (IntKind.u32.wrap ↑(BitVec.ofInt 32 (IntKind.u32.wrap ↑(BitVec.ofInt 32 (wordZ i.op) ||| BitVec.ofInt 32 (bitsZ i.rd 0 5 7)).toNat) ||| BitVec.ofInt 32 (bitsZ i.a 0 5 15)).toNat) ||| BitVec.ofInt 32 (bitsZ i.b 0 5 20)).toNat) ||| BitVec.ofInt 32 (bitsZ i.imm 0 5 20)).toNat)) [(i.rl, false), (i.aq, false), (pre (bitsC 0 5 20), true), (formZ i.op == 8, true), (formZ i.op == 7, false), (formZ i.op == 5, false), (formZ i.op == 4, false), (formZ i.op == 3, false), (formZ i.op == 2, false), (formZ i.op == 1, false), (pre (bitsC 0 5 20), true), (pre (bitsC 0 5 15), true), (pre (bitsC 0 5 7), true), (pre (okB i.op), true)] (by kernel_rfl) (by simp [pre, bitsC, hm, hm, hq, hr, h0, h1, h2, h3, h4, h5, h6]) w hG).of_eq (by first | (simp only [refZ, ref0Z, orW, anW, pre, bitsC, hm, hm, hq, hr, h0, h1, h2, h3, h4, h5, h6]; rfl) | simp [refZ, ref0Z, orW, anW, pre, bitsC, hm, hm, hq, hr, h0, h1, h2, h3, h4, h5, h6])
              · rcases Bool.eq_false_or_eq_true (formZ i.op == 9) with h7 | h7
                · exact (retP tRefForm_ok pRefEncC_ok (fuel := 1000) OIn [false, false, false, false, false, false, false, true, false, false] (v := .int .u32 (IntKind.u32.wrap ↑(BitVec.ofInt 32 (IntKind.u32.wrap ↑(BitVec.ofInt 32 (IntKind.u32.wrap ↑(BitVec.ofInt 32 (IntKind.u32.wrap ↑(BitVec.ofInt 32 (wordZ i.op) ||| BitVec.ofInt 32 (bitsZ i.rd 0 5 7)).toNat) ||| BitVec.ofInt 32 (bitsZ i.a 0 5 15)).toNat) ||| BitVec.ofInt 32 (bitsZ i.b 0 5 20)).toNat) ||| BitVec.ofInt 32 (bitsZ i.imm 0 8 20)).toNat)) [(i.rl, false), (i.aq, false), (pre (bitsC 0 8 20), true), (formZ i.op == 9, true), (formZ i.op == 8, false), (formZ i.op == 7, false), (formZ i.op == 5, false), (formZ i.op == 4, false), (formZ i.op == 3, false), (formZ i.op == 2, false), (formZ i.op == 1, false), (pre (bitsC 0 5 20), true), (pre (bitsC 0 5 15), true), (pre (bitsC 0 5 7), true), (pre (okB i.op), true)] (by kernel_rfl) (by simp [pre, bitsC, hm, hm, hq, hr, h0, h1, h2, h3, h4, h5, h6, h7]) w hG).of_eq (by first | (simp only [refZ, ref0Z, orW, anW, pre, bitsC, hm, hm, hq, hr, h0, h1, h2, h3, h4, h5, h6, h7]; rfl) | simp [refZ, ref0Z, orW, anW, pre, bitsC, hm, hm, hq, hr, h0, h1, h2, h3, h4, h5, h6, h7])
                · exact (retP tRefForm_ok pRefEncC_ok (fuel := 1000) OIn [false, false, false, false, false, false, false, false, false, false] (v := .int .u32 (IntKind.u32.wrap ↑(BitVec.ofInt 32 (IntKind.u32.wrap ↑(BitVec.ofInt 32 (IntKind.u32.wrap ↑(BitVec.ofInt 32 (wordZ i.op) ||| BitVec.ofInt 32 (bitsZ i.rd 0 5 7)).toNat) ||| BitVec.ofInt 32 (bitsZ i.a 0 5 15)).toNat) ||| BitVec.ofInt 32 (bitsZ i.b 0 5 20)).toNat)) [(i.rl, false), (i.aq, false), (formZ i.op == 9, false), (formZ i.op == 8, false), (formZ i.op == 7, false), (formZ i.op == 5, false), (formZ i.op == 4, false), (formZ i.op == 3, false), (formZ i.op == 2, false), (formZ i.op == 1, false), (pre (bitsC 0 5 20), true), (pre (bitsC 0 5 15), true), (pre (bitsC 0 5 7), true), (pre (okB i.op), true)] (by kernel_rfl) (by simp [pre, bitsC, hm, hm, hq, hr, h0, h1, h2, h3, h4, h5, h6, h7]) w hG).of_eq (by first | (simp only [refZ, ref0Z, orW, anW, pre, bitsC, hm, hm, hq, hr, h0, h1, h2, h3, h4, h5, h6, h7]; rfl) | simp [refZ, ref0Z, orW, anW, pre, bitsC, hm, hm, hq, hr, h0, h1, h2, h3, h4, h5, h6, h7])
theorem refEncode_order {gl : Gl} (i : In) (hm : okB i.op = true) (k1 : (formZ i.op == 1) = false) (k2 : (formZ i.op == 2) = false) (k3 : (formZ i.op == 3) = false) (k4 : (formZ i.op == 4) = false) (k5 : (formZ i.op == 5) = false) (k7 : (formZ i.op == 7) = false) (k8 : (formZ i.op == 8) = false) (k9 : (formZ i.op == 9) = false) (w : World) (hG : GlobOk gl w) :
    Ret Try.prog 83 #[inV i] (.int .u32 (bif i.rl then orW (bif i.aq then orW (ref0Z i) 67108864 else ref0Z i) 33554432 else bif i.aq then orW (ref0Z i) 67108864 else ref0Z i)) w := by
  rcases Bool.eq_false_or_eq_true (i.aq) with h8 | h8
  · rcases Bool.eq_false_or_eq_true (i.rl) with h9 | h9
    · exact (retP tRefForm_ok pRefEncC_ok (fuel := 1000) OIn [false, false, false, false, false, false, false, false, true, true] (v := .int .u32 (IntKind.u32.wrap ↑(BitVec.ofInt 32 (IntKind.u32.wrap ↑(BitVec.ofInt 32 (IntKind.u32.wrap ↑(BitVec.ofInt 32 (IntKind.u32.wrap ↑(BitVec.ofInt 32 (IntKind.u32.wrap ↑(BitVec.ofInt 32 (wordZ i.op) ||| BitVec.ofInt 32 (bitsZ i.rd 0 5 7)).toNat) ||| BitVec.ofInt 32 (bitsZ i.a 0 5 15)).toNat) ||| BitVec.ofInt 32 (bitsZ i.b 0 5 20)).toNat) ||| BitVec.ofInt 32 67108864).toNat) ||| BitVec.ofInt 32 33554432).toNat)) [(i.rl, true), (i.aq, true), (formZ i.op == 9, false), (formZ i.op == 8, false), (formZ i.op == 7, false), (formZ i.op == 5, false), (formZ i.op == 4, false), (formZ i.op == 3, false), (formZ i.op == 2, false), (formZ i.op == 1, false), (pre (bitsC 0 5 20), true), (pre (bitsC 0 5 15), true), (pre (bitsC 0 5 7), true), (pre (okB i.op), true)] (by kernel_rfl) (by simp [pre, bitsC, hm, hm, k1, k2, k3, k4, k5, k7, k8, k9, h8, h9]) w hG).of_eq (by first | (simp only [ref0Z, orW, anW, pre, bitsC, hm, hm, k1, k2, k3, k4, k5, k7, k8, k9, h8, h9]; rfl) | simp [ref0Z, orW, anW, pre, bitsC, hm, hm, k1, k2, k3, k4, k5, k7, k8, k9, h8, h9])
    · exact (retP tRefForm_ok pRefEncC_ok (fuel := 1000) OIn [false, false, false, false, false, false, false, false, true, false] (v := .int .u32 (IntKind.u32.wrap ↑(BitVec.ofInt 32 (IntKind.u32.wrap ↑(BitVec.ofInt 32 (IntKind.u32.wrap ↑(BitVec.ofInt 32 (IntKind.u32.wrap ↑(BitVec.ofInt 32 (wordZ i.op) ||| BitVec.ofInt 32 (bitsZ i.rd 0 5 7)).toNat) ||| BitVec.ofInt 32 (bitsZ i.a 0 5 15)).toNat) ||| BitVec.ofInt 32 (bitsZ i.b 0 5 20)).toNat) ||| BitVec.ofInt 32 67108864).toNat)) [(i.rl, false), (i.aq, true), (formZ i.op == 9, false), (formZ i.op == 8, false), (formZ i.op == 7, false), (formZ i.op == 5, false), (formZ i.op == 4, false), (formZ i.op == 3, false), (formZ i.op == 2, false), (formZ i.op == 1, false), (pre (bitsC 0 5 20), true), (pre (bitsC 0 5 15), true), (pre (bitsC 0 5 7), true), (pre (okB i.op), true)] (by kernel_rfl) (by simp [pre, bitsC, hm, hm, k1, k2, k3, k4, k5, k7, k8, k9, h8, h9]) w hG).of_eq (by first | (simp only [ref0Z, orW, anW, pre, bitsC, hm, hm, k1, k2, k3, k4, k5, k7, k8, k9, h8, h9]; rfl) | simp [ref0Z, orW, anW, pre, bitsC, hm, hm, k1, k2, k3, k4, k5, k7, k8, k9, h8, h9])
  · rcases Bool.eq_false_or_eq_true (i.rl) with h9 | h9
    · exact (retP tRefForm_ok pRefEncC_ok (fuel := 1000) OIn [false, false, false, false, false, false, false, false, false, true] (v := .int .u32 (IntKind.u32.wrap ↑(BitVec.ofInt 32 (IntKind.u32.wrap ↑(BitVec.ofInt 32 (IntKind.u32.wrap ↑(BitVec.ofInt 32 (IntKind.u32.wrap ↑(BitVec.ofInt 32 (wordZ i.op) ||| BitVec.ofInt 32 (bitsZ i.rd 0 5 7)).toNat) ||| BitVec.ofInt 32 (bitsZ i.a 0 5 15)).toNat) ||| BitVec.ofInt 32 (bitsZ i.b 0 5 20)).toNat) ||| BitVec.ofInt 32 33554432).toNat)) [(i.rl, true), (i.aq, false), (formZ i.op == 9, false), (formZ i.op == 8, false), (formZ i.op == 7, false), (formZ i.op == 5, false), (formZ i.op == 4, false), (formZ i.op == 3, false), (formZ i.op == 2, false), (formZ i.op == 1, false), (pre (bitsC 0 5 20), true), (pre (bitsC 0 5 15), true), (pre (bitsC 0 5 7), true), (pre (okB i.op), true)] (by kernel_rfl) (by simp [pre, bitsC, hm, hm, k1, k2, k3, k4, k5, k7, k8, k9, h8, h9]) w hG).of_eq (by first | (simp only [ref0Z, orW, anW, pre, bitsC, hm, hm, k1, k2, k3, k4, k5, k7, k8, k9, h8, h9]; rfl) | simp [ref0Z, orW, anW, pre, bitsC, hm, hm, k1, k2, k3, k4, k5, k7, k8, k9, h8, h9])
    · exact (retP tRefForm_ok pRefEncC_ok (fuel := 1000) OIn [false, false, false, false, false, false, false, false, false, false] (v := .int .u32 (IntKind.u32.wrap ↑(BitVec.ofInt 32 (IntKind.u32.wrap ↑(BitVec.ofInt 32 (IntKind.u32.wrap ↑(BitVec.ofInt 32 (wordZ i.op) ||| BitVec.ofInt 32 (bitsZ i.rd 0 5 7)).toNat) ||| BitVec.ofInt 32 (bitsZ i.a 0 5 15)).toNat) ||| BitVec.ofInt 32 (bitsZ i.b 0 5 20)).toNat)) [(i.rl, false), (i.aq, false), (formZ i.op == 9, false), (formZ i.op == 8, false), (formZ i.op == 7, false), (formZ i.op == 5, false), (formZ i.op == 4, false), (formZ i.op == 3, false), (formZ i.op == 2, false), (formZ i.op == 1, false), (pre (bitsC 0 5 20), true), (pre (bitsC 0 5 15), true), (pre (bitsC 0 5 7), true), (pre (okB i.op), true)] (by kernel_rfl) (by simp [pre, bitsC, hm, hm, k1, k2, k3, k4, k5, k7, k8, k9, h8, h9]) w hG).of_eq (by first | (simp only [ref0Z, orW, anW, pre, bitsC, hm, hm, k1, k2, k3, k4, k5, k7, k8, k9, h8, h9]; rfl) | simp [ref0Z, orW, anW, pre, bitsC, hm, hm, k1, k2, k3, k4, k5, k7, k8, k9, h8, h9])
theorem orW_nat (a b : Nat) (ha : a < 4294967296) (hb : b < 4294967296) : orW (a : Int) (b : Int) = ((a ||| b : Nat) : Int) := u32_or_nat a b ha hb
theorem anW_nat (a b : Nat) (ha : a < 4294967296) (hb : b < 4294967296) : anW (a : Int) (b : Int) = ((a &&& (4294967295 - b) : Nat) : Int) := u32_andNot_nat a b ha hb
theorem u64_part (v : Int) (f c : Nat) (h : f + c ≤ 64) : ((u64N v / 2 ^ f % 2 ^ c : Nat) : Int) = v / ((2 ^ f : Nat) : Int) % ((2 ^ c : Nat) : Int) := by
  have e : ((u64N v : Nat) : Int) = v % 18446744073709551616 := by unfold u64N; omega
  have hM : (18446744073709551616 : Int) = ((2 ^ f : Nat) : Int) * (((2 ^ c : Nat) : Int) * ((2 ^ (64 - f - c) : Nat) : Int)) := by
    rw [← Int.natCast_mul, ← Int.natCast_mul, ← Nat.pow_add, ← Nat.pow_add, show f + (c + (64 - f - c)) = 64 by omega]; rfl
  have hp : ((2 ^ f : Nat) : Int) ≠ 0 := by have := Nat.two_pow_pos f; omega
  rw [Int.natCast_emod, Int.natCast_ediv, e, Int.emod_def v, hM]
  generalize ((2 ^ f : Nat) : Int) = p at *
  generalize ((2 ^ c : Nat) : Int) = q at *
  generalize ((2 ^ (64 - f - c) : Nat) : Int) = r at *
  generalize v / (p * (q * r)) = k
  have e2 : v - p * (q * r) * k = v + (-(q * (r * k))) * p := by
    rw [Int.neg_mul, Int.sub_eq_add_neg, Int.mul_assoc, Int.mul_assoc, Int.mul_comm p]
  rw [e2, Int.add_mul_ediv_right _ _ hp, Int.add_neg_mul_emod_self_left]
theorem or_step (x v f c a p q r : Int) (hp : (((2 ^ f.toNat : Nat) : Int) = p) ∧ (((2 ^ c.toNat : Nat) : Int) = q) ∧ (((2 ^ a.toNat : Nat) : Int) = r) ∧ f.toNat + c.toNat ≤ 64 ∧ a.toNat + c.toNat ≤ 32) (x0 : 0 ≤ x) (x1 : x < 4294967296) (hz : x / r % q = 0) : orW x (bitsZ v f c a) = x + v / p % q * r := by
  obtain ⟨hp, hq, hr, h3, h4⟩ := hp
  rw [bitsZ_eq]
  generalize a.toNat = a' at *
  generalize c.toNat = c' at *
  generalize f.toNat = f' at *
  obtain ⟨X, rfl⟩ := Int.eq_ofNat_of_zero_le x0
  have hu := u64_part v f' c' h3
  rw [hp, hq] at hu
  have hlt : partN (u64N v) f' c' a' < 4294967296 := val_top a' c' _ h4
  have hz' : X / 2 ^ a' % 2 ^ c' = 0 := by rw [← hq, ← hr] at hz; exact_mod_cast hz
  rw [Nat.mod_eq_of_lt hlt, orW_nat _ _ (by omega) hlt]
  unfold partN
  rw [or_field X a' c' _ (Nat.mod_lt _ (Nat.two_pow_pos c')) hz', Int.natCast_add, Int.natCast_mul, hu, hr]
theorem an_step (x v f c a q r : Int) (hp : (((2 ^ c.toNat : Nat) : Int) = q) ∧ (((2 ^ a.toNat : Nat) : Int) = r) ∧ a.toNat + c.toNat ≤ 32) (hv : bitsZ v f c a = (q - 1) * r) (x0 : 0 ≤ x) (x1 : x < 4294967296) (hz : x / r % q = 0) : anW x (bitsZ v f c a) = x := by
  obtain ⟨hq, hr, h4⟩ := hp
  rw [hv]
  generalize a.toNat = a' at *
  generalize c.toNat = c' at *
  obtain ⟨X, rfl⟩ := Int.eq_ofNat_of_zero_le x0
  have hz' : X / 2 ^ a' % 2 ^ c' = 0 := by rw [← hq, ← hr] at hz; exact_mod_cast hz
  have hpos := Nat.two_pow_pos c'
  have e : (q - 1) * r = (((2 ^ c' - 1) * 2 ^ a' : Nat) : Int) := by rw [Int.natCast_mul, Int.natCast_sub hpos, hq, hr]; rfl
  have ht := field_top a' c' h4
  have := put_or X a' c' 0 (by omega) h4 hz'
  unfold putF at this
  rw [Nat.zero_mod, Nat.zero_mul, Nat.or_zero, Nat.add_zero] at this
  rw [e, anW_nat _ _ (by omega) ht, this]
theorem bits_31 : bitsZ (-1) 0 5 7 = (32 - 1) * 128 := by rw [bitsZ_eq]; decide +kernel
theorem or_one (x p : Int) (k : Nat) (hp : ((2 ^ k : Nat) : Int) = p ∧ k < 32) (x0 : 0 ≤ x) (x1 : x < 4294967296) (hz : x / p % 2 = 0) : orW x p = x + p := by
  obtain ⟨hp, hk⟩ := hp
  obtain ⟨X, rfl⟩ := Int.eq_ofNat_of_zero_le x0
  have hz' : X / 2 ^ k % 2 ^ 1 = 0 := by rw [← hp] at hz; exact_mod_cast hz
  have hlt : 2 ^ k < 4294967296 := Nat.pow_lt_pow_right (n := 32) (by omega) hk
  have := or_field X k 1 1 (by omega) hz'
  rw [Nat.one_mul] at this
  rw [← hp, orW_nat _ _ (by omega) hlt, this, Int.natCast_add]
theorem ref0_enc (W rd a b : Int) (h0 : 0 ≤ W) (h1 : W < 4294967296) (h2 : rd = 0 ∨ W / 128 % 32 = 0) (h3 : a = 0 ∨ W / 32768 % 32 = 0) (h4 : b = 0 ∨ W / 1048576 % 32 = 0) (r0 : 0 ≤ rd) (r1 : rd ≤ 31) (a0 : 0 ≤ a) (a1 : a ≤ 31) (b0 : 0 ≤ b) (b1 : b ≤ 31) :
    orW (orW (orW W (bitsZ rd 0 5 7)) (bitsZ a 0 5 15)) (bitsZ b 0 5 20) = W + rd * 128 + a * 32768 + b * 1048576 := by
  have z : ∀ x a, 0 ≤ x → x < 4294967296 → orW x (bitsZ 0 0 5 a) = x := fun x a x0 x1 => by
    obtain ⟨X, rfl⟩ := Int.eq_ofNat_of_zero_le x0
    have : bitsZ 0 0 5 a = ((0 : Nat) : Int) := by rw [bitsZ_eq]; simp [partN, u64N]
    rw [this, orW_nat _ _ (by omega) (by omega), Nat.or_zero]
  have e1 : orW W (bitsZ rd 0 5 7) = W + rd * 128 := by
    rcases h2 with rfl | h2
    · rw [z W 7 h0 h1]; omega
    · rw [or_step W rd 0 5 7 1 32 128 (by decide) h0 h1 h2]; omega
  have hlt : W + rd * 128 < 4294967296 := by rcases h2 with rfl | h2 <;> omega
  have e2 : orW (W + rd * 128) (bitsZ a 0 5 15) = W + rd * 128 + a * 32768 := by
    rcases h3 with rfl | h3
    · rw [z _ 15 (by omega) hlt]; omega
    · rw [or_step _ a 0 5 15 1 32 32768 (by decide) (by omega) hlt (by rcases h2 with rfl | h2 <;> omega)]; omega
  have hlt2 : W + rd * 128 + a * 32768 < 4294967296 := by rcases h2 with rfl | h2 <;> rcases h3 with rfl | h3 <;> omega
  rw [e1, e2]
  rcases h4 with rfl | h4
  · rw [z _ 20 (by omega) hlt2]; omega
  · rw [or_step _ b 0 5 20 1 32 1048576 (by decide) (by omega) hlt2 (by rcases h2 with rfl | h2 <;> rcases h3 with rfl | h3 <;> omega)]; omega
theorem ref_enc (i : In) (hm : mayB i = true) : (bif i.rl then orW (bif i.aq then orW (refZ i) 67108864 else refZ i) 33554432 else bif i.aq then orW (refZ i) 67108864 else refZ i) = encZ i := by
  have hk := form_rng (may_ok hm)
  have F := may_fld hm
  have hI := imm_rng F.im hk.1 hk.2
  obtain ⟨r0, r1, rn, a0, a1, an, b0, b1, bn, _, on, wd⟩ := F
  obtain ⟨op, rd, a, b, imm, aq, rl⟩ := i
  have hk' : formZ op = 0 ∨ formZ op = 1 ∨ formZ op = 2 ∨ formZ op = 3 ∨ formZ op = 4 ∨ formZ op = 5 ∨ formZ op = 6 ∨ formZ op = 7 ∨ formZ op = 8 ∨ formZ op = 9 ∨ formZ op = 10 ∨ formZ op = 11 := by simp at hk; omega
  unfold encZ refZ ref0Z
  simp only at *
  clear hm
  generalize wordZ op = W at *
  unfold immRg at hI
  generalize formZ op = k at *
  have H0 := ref0_enc W rd a b
  rcases hk' with rfl | rfl | rfl | rfl | rfl | rfl | rfl | rfl | rfl | rfl | rfl | rfl
  all_goals
    simp [wordOk] at wd hI
    simp [rdF, aF, bF, oF, atZ] at rn an bn on
    rw [H0 (by omega) (by omega) (by omega) (by omega) (by omega) r0 r1 a0 a1 b0 b1]
    clear H0
    simp only [immZ]
    simp
  · obtain ⟨rfl, rfl⟩ := on
    simp [b01, hI]
  · obtain ⟨rfl, rfl⟩ := on
    subst an bn
    simp only [cond_false, b01]
    rw [or_step _ imm 0 20 12 1 1048576 4096 (by decide) (by omega) (by omega) (by omega)]; omega
  · obtain ⟨rfl, rfl⟩ := on
    subst an bn
    simp only [cond_false, b01]
    obtain ⟨s, p, q, r, f1, f2, f3, f4, f5, s0, s1, p0, p1, q0', q1', r0', r1'⟩ := parts_j imm (by omega) (by omega) (by omega)
    rw [or_step _ imm 20 1 31 1048576 2 2147483648 (by decide) (by omega) (by omega) (by omega), f1,
      or_step _ imm 1 10 21 2 1024 2097152 (by decide) (by clear f1 f2 f3 f4 f5 hI; omega) (by clear f1 f2 f3 f4 f5 hI; omega) (by clear f1 f2 f3 f4 f5 hI; omega), f4,
      or_step _ imm 11 1 20 2048 2 1048576 (by decide) (by clear f1 f2 f3 f4 f5 hI; omega) (by clear f1 f2 f3 f4 f5 hI; omega) (by clear f1 f2 f3 f4 f5 hI; omega), f3,
      or_step _ imm 12 8 12 4096 256 4096 (by decide) (by clear f1 f2 f3 f4 f5 hI; omega) (by clear f1 f2 f3 f4 f5 hI; omega) (by clear f1 f2 f3 f4 f5 hI; omega), f2]
    clear f1 f2 f3 f4 f5 hI; omega
  · obtain ⟨rfl, rfl⟩ := on
    subst bn
    simp only [cond_false, b01]
    obtain ⟨o, f, rfl, o0, o1, g0, g1⟩ := parts_w W (by omega) (by omega) (by omega)
    clear wd
    rw [or_step _ imm 0 12 20 1 4096 1048576 (by decide) (by omega) (by omega) (by omega)]; omega
  · obtain ⟨rfl, rfl⟩ := on
    subst rn
    simp only [cond_false, b01]
    obtain ⟨s, p, q, r, f1, f2, f3, f4, f5, s0, s1, p0, p1, q0', q1', r0', r1'⟩ := parts_b imm (by omega) (by omega) (by omega)
    obtain ⟨o, f, rfl, o0, o1, g0, g1⟩ := parts_w W (by omega) (by omega) (by omega)
    clear wd hI
    rw [an_step _ (-1) 0 5 7 32 128 (by decide) bits_31 (by omega) (by omega) (by omega),
      or_step _ imm 12 1 31 4096 2 2147483648 (by decide) (by omega) (by omega) (by omega), f1,
      or_step _ imm 5 6 25 32 64 33554432 (by decide) (by clear f1 f2 f3 f4 f5; omega) (by clear f1 f2 f3 f4 f5; omega) (by clear f1 f2 f3 f4 f5; omega), f3,
      or_step _ imm 1 4 8 2 16 256 (by decide) (by clear f1 f2 f3 f4 f5; omega) (by clear f1 f2 f3 f4 f5; omega) (by clear f1 f2 f3 f4 f5; omega), f4,
      or_step _ imm 11 1 7 2048 2 128 (by decide) (by clear f1 f2 f3 f4 f5; omega) (by clear f1 f2 f3 f4 f5; omega) (by clear f1 f2 f3 f4 f5; omega), f2]
    clear f1 f2 f3 f4 f5; omega
  · obtain ⟨rfl, rfl⟩ := on
    subst rn
    simp only [cond_false, b01]
    obtain ⟨o, f, rfl, o0, o1, g0, g1⟩ := parts_w W (by omega) (by omega) (by omega)
    clear wd
    rw [an_step _ (-1) 0 5 7 32 128 (by decide) bits_31 (by omega) (by omega) (by omega),
      or_step _ imm 5 7 25 32 128 33554432 (by decide) (by omega) (by omega) (by omega),
      or_step _ imm 0 5 7 1 32 128 (by decide) (by omega) (by omega) (by omega)]; omega
  · obtain ⟨rfl, rfl⟩ := on
    simp [b01]
  · obtain ⟨rfl, rfl⟩ := on
    subst bn
    simp only [cond_false, b01]
    rw [or_step _ imm 0 6 20 1 64 1048576 (by decide) (by omega) (by omega) (by omega)]; omega
  · obtain ⟨rfl, rfl⟩ := on
    subst bn
    simp only [cond_false, b01]
    rw [or_step _ imm 0 5 20 1 32 1048576 (by decide) (by omega) (by omega) (by omega)]; omega
  · obtain ⟨rfl, rfl⟩ := on
    subst rn an bn
    simp only [cond_false, b01]
    rw [or_step _ imm 0 8 20 1 256 1048576 (by decide) (by omega) (by omega) (by omega)]; omega
  all_goals
    obtain ⟨o, f, g, rfl, o0, o1, g0, g1, g2, g3⟩ := parts_w2 W 4096 134217728 (by omega) (by omega) (by omega) (by omega) (by omega)
    clear wd
    cases aq <;> cases rl <;> simp only [cond_true, cond_false, b01]
    · omega
    · rw [or_one _ 33554432 25 (by decide) (by omega) (by omega) (by omega)]; omega
    · rw [or_one _ 67108864 26 (by decide) (by omega) (by omega) (by omega)]; omega
    · rw [or_one _ 67108864 26 (by decide) (by omega) (by omega) (by omega), or_one _ 33554432 25 (by decide) (by omega) (by omega) (by omega)]; omega
theorem refEncode_ret {gl : Gl} (i : In) (hm : mayB i = true) (w : World) (hG : GlobOk gl w) : Ret Try.prog 83 #[inV i] (.int .u32 (encZ i)) w := by
  have e := ref_enc i hm
  have hn := (may_fld hm).aq
  cases ho : oF (formZ i.op)
  · obtain ⟨h1, h2⟩ := hn ho
    rw [h1, h2] at e
    exact (refEncode_plain i (may_ok hm) h1 h2 w hG).of_eq (by rw [← e]; rfl)
  · have hk := form_rng (may_ok hm)
    have hk' : formZ i.op = 10 ∨ formZ i.op = 11 := by
      have : formZ i.op = 0 ∨ formZ i.op = 1 ∨ formZ i.op = 2 ∨ formZ i.op = 3 ∨ formZ i.op = 4 ∨ formZ i.op = 5 ∨ formZ i.op = 6 ∨ formZ i.op = 7 ∨ formZ i.op = 8 ∨ formZ i.op = 9 ∨ formZ i.op = 10 ∨ formZ i.op = 11 := by omega
      rcases this with h | h | h | h | h | h | h | h | h | h | h | h
      all_goals first | (exact .inl h) | (exact .inr h) | (rw [h] at ho; simp [oF, atZ] at ho)
    have e0 : refZ i = ref0Z i := by rcases hk' with h | h <;> simp [refZ, h]
    rw [e0] at e
    have ne : ∀ j : Int, j ≠ 10 → j ≠ 11 → (formZ i.op == j) = false := fun j h1 h2 => by rcases hk' with h | h <;> simp [h] <;> omega
    exact (refEncode_order i (may_ok hm) (ne _ (by decide) (by decide)) (ne _ (by decide) (by decide)) (ne _ (by decide) (by decide)) (ne _ (by decide) (by decide)) (ne _ (by decide) (by decide)) (ne _ (by decide) (by decide)) (ne _ (by decide) (by decide)) (ne _ (by decide) (by decide)) w hG).of_eq (by rw [← e])
end Go.Proofs.Ytchjjbcmbdmlgaa
