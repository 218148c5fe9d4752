/- Part 1 of the proof: Plain01, Plain03, Sim, SimOk, SimCalls, SimV, Kit01, Word, GlT, Isa, Plain04, Enc, Ref01, Ref03, Ref04, Ref05, MapL. -/
import Derived.WalkKit
import Derived.Laws.BitsAllLaws
import Derived.Below
import Derived.LoopN
import Derived.Laws.Rows
import Derived.Deep.Quiet
import Derived.Laws.StructEq
import Derived.WalkSpells
import Derived.WalkLawsBesides
import Derived.Deep.QuietTactic
import Derived.BigQuiet
import Derived.Deep.Draws
import Derived.Test.YtiajbijbhhpllaaDoorRows
import Derived.KernelRfl
import Derived.Maps.Own
import Derived.Maps.OwnOps
set_option linter.unusedVariables false
set_option linter.unusedSimpArgs false
namespace Go.Proofs.YtiajbijbhhpllaaDoor
open Go.RowKit
theorem ret_int {k : IntKind} {a b : Int} (h : a = b) : Ending.returned (.int k a) = .returned (.int k b) := by rw [h]
theorem ones_eq' : ∀ n : Fin 33, (4294967295 : Int) / 2 ^ (32 - n.val) = ((2 ^ n.val - 1 : Nat) : Int) := by decide +kernel
theorem ones_eq (n : Nat) (h : n ≤ 32) : (4294967295 : Int) / 2 ^ (32 - n) = ((2 ^ n - 1 : Nat) : Int) := ones_eq' ⟨n, by omega⟩
theorem pow_le32 (n : Nat) (h : n ≤ 32) : 2 ^ n ≤ 4294967296 := Nat.pow_le_pow_right (by omega) h
theorem mask_eq (x n : Nat) (hx : x < 4294967296) (h : n ≤ 32) : bits .and .u32 (x : Int) ((2 ^ n - 1 : Nat) : Int) = ((x % 2 ^ n : Nat) : Int) := by
  have := pow_le32 n h
  have := Nat.two_pow_pos n
  rw [u32_and_nat x (2 ^ n - 1) hx (by omega), Nat.and_two_pow_sub_one_eq_mod]
def getF (w a n : Nat) : Nat := w / 2 ^ a % 2 ^ n
def putF (w a n v : Nat) : Nat := (w &&& (4294967295 - (2 ^ n - 1) * 2 ^ a)) ||| (v % 2 ^ n * 2 ^ a)
theorem get_eq (x a n : Nat) (hx : x < 4294967296) (h2 : n ≤ 32) :
    bits .and .u32 ((x : Int) / 2 ^ a) ((2 ^ n - 1 : Nat) : Int) = ((getF x a n : Nat) : Int) := by
  have e : (x : Int) / 2 ^ a = ((x / 2 ^ a : Nat) : Int) := by simp
  rw [e, mask_eq _ n (Nat.lt_of_le_of_lt (Nat.div_le_self _ _) hx) h2]; rfl
theorem field_top (a n : Nat) (h4 : a + n ≤ 32) : (2 ^ n - 1) * 2 ^ a < 4294967296 := by
  have h := pow_le32 (a + n) h4
  rw [Nat.pow_add, Nat.mul_comm] at h
  have := Nat.two_pow_pos a
  have := Nat.two_pow_pos n
  rw [Nat.sub_mul, Nat.one_mul]
  omega
theorem val_top (a n v : Nat) (h4 : a + n ≤ 32) : v % 2 ^ n * 2 ^ a < 4294967296 := by
  have h := pow_le32 (a + n) h4
  rw [Nat.pow_add, Nat.mul_comm] at h
  have h3 : v % 2 ^ n + 1 ≤ 2 ^ n := Nat.mod_lt _ (Nat.two_pow_pos n)
  have h5 := Nat.mul_le_mul_right (2 ^ a) h3
  rw [Nat.add_mul, Nat.one_mul] at h5
  have := Nat.two_pow_pos a
  omega
theorem shl_eq (y a : Nat) (h : y * 2 ^ a < 4294967296) : ((y : Int) * 2 ^ a) % 4294967296 = ((y * 2 ^ a : Nat) : Int) := by
  have e : (y : Int) * 2 ^ a = ((y * 2 ^ a : Nat) : Int) := by simp
  rw [e]; omega
theorem put_eq (x a n v : Nat) (hx : x < 4294967296) (hv : v < 4294967296) (h2 : n ≤ 32) (h4 : a + n ≤ 32) :
    bits .or .u32 (bits .andNot .u32 (x : Int) (((2 ^ n - 1 : Nat) : Int) * 2 ^ a % 4294967296)) (bits .and .u32 (v : Int) ((2 ^ n - 1 : Nat) : Int) * 2 ^ a % 4294967296) = ((putF x a n v : Nat) : Int) := by
  rw [mask_eq v n hv h2, shl_eq _ a (field_top a n h4), shl_eq _ a (val_top a n v h4), u32_andNot_nat x _ hx (field_top a n h4),
    u32_or_nat _ _ (Nat.lt_of_le_of_lt Nat.and_le_left hx) (val_top a n v h4)]
  rfl
theorem putF_lt (x a n v : Nat) (hx : x < 4294967296) (h4 : a + n ≤ 32) : putF x a n v < 4294967296 :=
  Nat.or_lt_two_pow (n := 32) (Nat.lt_of_le_of_lt Nat.and_le_left hx) (val_top a n v h4)
def bitN (v i : Nat) : Nat := v / 2 ^ i % 2
theorem bitN_lt (v i : Nat) : bitN v i < 2 := Nat.mod_lt _ (by omega)
theorem test_getF (w a n i : Nat) : (getF w a n).testBit i = (decide (i < n) && w.testBit (a + i)) := by
  unfold getF; rw [Nat.testBit_mod_two_pow, Nat.testBit_div_two_pow, Nat.add_comm]
theorem test_putF (w a n v i : Nat) (hw : w < 4294967296) (h4 : a + n ≤ 32) :
    (putF w a n v).testBit i = if a ≤ i ∧ i < a + n then v.testBit (i - a) else w.testBit i := by
  unfold putF
  have e : 4294967295 - (2 ^ n - 1) * 2 ^ a = 2 ^ 32 - ((2 ^ n - 1) * 2 ^ a + 1) := by omega
  have hw32 : w.testBit i = true → i < 32 := fun h => by
    refine Decidable.byContradiction fun hi => ?_
    have : w < 2 ^ i := Nat.lt_of_lt_of_le hw (Nat.pow_le_pow_right (n := 2) (by omega) (show 32 ≤ i by omega))
    rw [Nat.testBit_lt_two_pow this] at h; cases h
  rw [Nat.testBit_or, Nat.testBit_and, e, Nat.testBit_two_pow_sub_succ (field_top a n h4), Nat.testBit_mul_two_pow, Nat.testBit_mul_two_pow, Nat.testBit_mod_two_pow, Nat.testBit_two_pow_sub_one]
  by_cases h1 : a ≤ i <;> by_cases h2 : i < a + n
  · have : i - a < n := by omega
    have : i < 32 := by omega
    simp [*]
  · have : ¬ i - a < n := by omega
    simp [*]
    cases hb : w.testBit i <;> simp_all
  · have : i < 32 := by omega
    simp [*]
  · simp [*]
    cases hb : w.testBit i <;> simp_all
def signN (x n : Nat) : Int := ((x % 2 ^ (n - 1) : Nat) : Int) - 2 ^ (n - 1) * ((bitN x (n - 1) : Nat) : Int)
theorem mod_top (x n : Nat) (h1 : 1 ≤ n) : x % 2 ^ n = x % 2 ^ (n - 1) + 2 ^ (n - 1) * bitN x (n - 1) := by
  obtain ⟨m, rfl⟩ : ∃ m, n = m + 1 := ⟨n - 1, by omega⟩
  simp only [Nat.add_sub_cancel, bitN]
  rw [Nat.pow_succ, Nat.mod_mul]
theorem sign_core (y b p k : Nat) (hb : b < 2) (hy : y < p) (hk : 0 < k) (hpk : p * k = 2147483648) :
    wrap64 (wrap32 (((y + p * b) * k : Nat) : Int) / (k : Int)) = (y : Int) - p * b := by
  have h5 : y * k < 2147483648 := by rw [← hpk]; exact (Nat.mul_lt_mul_right hk).mpr hy
  have hle : p ≤ 2147483648 := by rw [← hpk]; exact Nat.le_mul_of_pos_right _ hk
  have hk0 : (k : Int) ≠ 0 := by omega
  have main : wrap32 (((y + p * b) * k : Nat) : Int) / (k : Int) = (y : Int) - p * b := by
    have hc : b = 0 ∨ b = 1 := by omega
    rcases hc with rfl | rfl
    · have e : (y + p * 0) * k = y * k := by rw [Nat.mul_zero, Nat.add_zero]
      have hw : wrap32 ((y * k : Nat) : Int) = ((y * k : Nat) : Int) := by unfold wrap32; omega
      rw [e, hw, Int.natCast_mul, Int.mul_ediv_cancel _ hk0]; omega
    · have e : (y + p * 1) * k = y * k + 2147483648 := by rw [Nat.mul_one, Nat.add_mul, hpk]
      have hpk' : (p : Int) * k = 2147483648 := by rw [← Int.natCast_mul, hpk]; rfl
      have hw : wrap32 ((y * k + 2147483648 : Nat) : Int) = ((y : Int) - p) * k := by
        rw [Int.sub_mul, hpk', ← Int.natCast_mul]; unfold wrap32; omega
      rw [e, hw, Int.mul_ediv_cancel _ hk0]; omega
  rw [main]
  have hb2 : b = 0 ∨ b = 1 := by omega
  rcases hb2 with rfl | rfl <;> (unfold wrap64; omega)
theorem sign_shl (x n : Nat) (h2 : n ≤ 32) : (x : Int) * 2 ^ (32 - n) % 4294967296 = ((x % 2 ^ n * 2 ^ (32 - n) : Nat) : Int) := by
  have h32 : (2 : Nat) ^ n * 2 ^ (32 - n) = 4294967296 := by rw [← Nat.pow_add, show n + (32 - n) = 32 by omega]
  have e : (x : Int) * 2 ^ (32 - n) = ((x * 2 ^ (32 - n) : Nat) : Int) := by rw [Int.natCast_mul, Int.natCast_pow]; rfl
  have hm := Nat.mul_mod_mul_right (2 ^ (32 - n)) x (2 ^ n)
  rw [h32] at hm
  rw [e, ← hm]
  omega
theorem sign_eq (x n : Nat) (h1 : 1 ≤ n) (h2 : n ≤ 32) :
    wrap64 (wrap32 ((x : Int) * 2 ^ (32 - n) % 4294967296) / 2 ^ (32 - n)) = signN x n := by
  have hpk : 2 ^ (n - 1) * 2 ^ (32 - n) = 2147483648 := by rw [← Nat.pow_add, show n - 1 + (32 - n) = 31 by omega]
  have e : (2 : Int) ^ (32 - n) = ((2 ^ (32 - n) : Nat) : Int) := by rw [Int.natCast_pow]; rfl
  have hc := sign_core (x % 2 ^ (n - 1)) (bitN x (n - 1)) (2 ^ (n - 1)) (2 ^ (32 - n)) (bitN_lt _ _) (Nat.mod_lt _ (Nat.two_pow_pos _)) (Nat.two_pow_pos _) hpk
  rw [sign_shl x n h2, mod_top x n h1, e, hc]
  unfold signN
  rw [Int.natCast_pow]; rfl
def fitsB (x : Int) (n : Nat) : Bool := x / 2 ^ (n - 1) == 0 || x / 2 ^ (n - 1) == -1
theorem fitsB_iff (x : Int) (n : Nat) : fitsB x n = true ↔ -(2 ^ (n - 1) : Nat) ≤ x ∧ x < (2 ^ (n - 1) : Nat) := by
  have hp : (0 : Int) < 2 ^ (n - 1) := Int.pow_pos (by decide)
  have hc : ((2 ^ (n - 1) : Nat) : Int) = 2 ^ (n - 1) := by rw [Int.natCast_pow]; rfl
  rw [hc]
  unfold fitsB
  generalize (2 : Int) ^ (n - 1) = p at *
  simp only [Bool.or_eq_true, beq_iff_eq]
  have h0 := Int.emod_nonneg x (Int.ne_of_gt hp)
  have h1 := Int.emod_lt_of_pos x hp
  have h2 := Int.mul_ediv_add_emod x p
  constructor
  · rintro (h | h) <;> rw [h] at h2
    · rw [Int.mul_zero] at h2; omega
    · rw [Int.mul_neg, Int.mul_one] at h2; omega
  · rintro ⟨ha, hb⟩
    by_cases hx : 0 ≤ x
    · left; exact Int.ediv_eq_zero_of_lt hx hb
    · right
      have e : x / p = (x + p) / p - 1 := by rw [Int.add_ediv_of_dvd_right ⟨1, by omega⟩, Int.ediv_self (by omega)]; omega
      rw [e, Int.ediv_eq_zero_of_lt (by omega) (by omega)]; rfl
def shrN (v j : Nat) : Nat := v / 2 ^ j
def powN (j : Nat) : Nat := 2 ^ j
theorem shrN_zero (v : Nat) : shrN v 0 = v := by simp [shrN]
theorem shrN_le (v j : Nat) : shrN v j ≤ v := Nat.div_le_self _ _
theorem shrN_succ (v j : Nat) : shrN v (j + 1) = shrN v j / 2 := by unfold shrN; rw [Nat.pow_succ, Nat.div_div_eq_div_mul]
theorem shrN_bit (v j : Nat) : shrN v j % 2 = bitN v j := rfl
theorem powN_succ (j : Nat) : powN (j + 1) = 2 * powN j := by unfold powN; rw [Nat.pow_succ, Nat.mul_comm]
theorem powN_le (i j : Nat) (h : i ≤ j) : powN i ≤ powN j := Nat.pow_le_pow_right (by omega) h
theorem powN_63 : powN 63 = 9223372036854775808 := by decide
def u64N (x : Int) : Nat := (x % 18446744073709551616).toNat
theorem u64N_lt (x : Int) : u64N x < 18446744073709551616 := by unfold u64N; omega
theorem u64N_eq (x : Int) : IntKind.u64.wrap x = ((u64N x : Nat) : Int) := by rw [IntKind.wrap_u64]; unfold u64N; omega
end Go.Proofs.YtiajbijbhhpllaaDoor
namespace Go.Proofs.YtiajbijbhhpllaaDoor
open Go.RowKit
def formL : List Int := [-1, 1, 1, 2, 3, 4, 4, 4, 4, 4, 4, 3, 3, 3, 3, 3, 3, 3, 5, 5, 5, 5, 3, 3, 3, 3, 3, 3, 7, 7, 7, 3, 8, 8, 8, 6, 6, 6, 6, 6, 6, 6, 6, 6, 6, 6, 6, 6, 6, 6, 6, 6, 6, 6, 6, 6, 6, 6, 6, 6, 6, 6, 6, 9, 0, 0, 10, 11, 11, 11, 11, 11, 11, 11, 11, 11, 11, 10, 11, 11, 11, 11, 11, 11, 11, 11, 11, 11]
def readL : List Bool := [false, false, false, false, false, false, false, false, false, false, false, true, true, true, true, true, true, true, false, false, false, false, false, false, false, false, false, false, false, false, false, false, false, false, false, false, false, false, false, false, false, false, false, false, false, false, false, false, false, false, false, false, false, false, false, false, false, false, false, false, false, false, false, false, false, false, true, false, true, true, true, true, true, true, true, true, true, true, false, true, true, true, true, true, true, true, true, true]
def writeL : List Bool := [false, false, false, false, false, false, false, false, false, false, false, false, false, false, false, false, false, false, true, true, true, true, false, false, false, false, false, false, false, false, false, false, false, false, false, false, false, false, false, false, false, false, false, false, false, false, false, false, false, false, false, false, false, false, false, false, false, false, false, false, false, false, false, false, false, false, false, true, true, true, true, true, true, true, true, true, true, false, true, true, true, true, true, true, true, true, true, true]
def atZ {α : Type} (l : List α) (d : α) (op : Int) : α := if 0 ≤ op then l.getD op.toNat d else d
def formZ (op : Int) : Int := atZ formL (-1) op
def readZ (op : Int) : Bool := atZ readL false op
def writeZ (op : Int) : Bool := atZ writeL false op
def okB (op : Int) : Bool := decide (1 ≤ op ∧ op ≤ 87)
def letL : List Int := [0, 85, 85, 74, 73, 66, 66, 66, 66, 66, 66, 73, 73, 73, 73, 73, 73, 73, 83, 83, 83, 83, 73, 73, 73, 73, 73, 73, 72, 72, 72, 73, 87, 87, 87, 82, 82, 82, 82, 82, 82, 82, 82, 82, 82, 82, 82, 82, 82, 82, 82, 82, 82, 82, 82, 82, 82, 82, 82, 82, 82, 82, 82, 70, 78, 78, 76, 65, 65, 65, 65, 65, 65, 65, 65, 65, 65, 76, 65, 65, 65, 65, 65, 65, 65, 65, 65, 65]
def letZ (op : Int) : Int := atZ letL 0 op
theorem atZ_out {α : Type} (l : List α) (d : α) (op : Int) (h : op < 0 ∨ (l.length : Int) ≤ op) : atZ l d op = d := by
  unfold atZ
  by_cases h0 : 0 ≤ op
  · rw [if_pos h0, List.getD_eq_getElem?_getD, List.getElem?_eq_none (by omega)]; rfl
  · rw [if_neg h0]
theorem okB_nat (n : Nat) (h0 : 1 ≤ n) (h : n < 88) : okB (n : Int) = true := by unfold okB; rw [decide_eq_true_iff]; omega
theorem okB_out {op : Int} (h : op < 1 ∨ 87 < op) : okB op = false := by unfold okB; rw [decide_eq_false_iff_not]; omega
theorem op_cases (op : Int) : (∃ n : Nat, 1 ≤ n ∧ n < 88 ∧ op = (n : Int)) ∨ (op < 1 ∨ 87 < op) := by
  by_cases h : 1 ≤ op ∧ op ≤ 87
  · exact .inl ⟨op.toNat, by omega, by omega, by omega⟩
  · exact .inr (by omega)
theorem formZ_out {op : Int} (h : op < 1 ∨ 87 < op) : formZ op = -1 := by
  by_cases h0 : op = 0
  · subst h0; rfl
  · exact atZ_out _ _ _ (by have : formL.length = 88 := by decide +kernel
                            omega)
theorem readZ_out {op : Int} (h : op < 1 ∨ 87 < op) : readZ op = false := by
  by_cases h0 : op = 0
  · subst h0; rfl
  · exact atZ_out _ _ _ (by have : readL.length = 88 := by decide +kernel
                            omega)
theorem writeZ_out {op : Int} (h : op < 1 ∨ 87 < op) : writeZ op = false := by
  by_cases h0 : op = 0
  · subst h0; rfl
  · exact atZ_out _ _ _ (by have : writeL.length = 88 := by decide +kernel
                            omega)
theorem letZ_out {op : Int} (h : op < 1 ∨ 87 < op) : letZ op = 0 := by
  by_cases h0 : op = 0
  · subst h0; rfl
  · exact atZ_out _ _ _ (by have : letL.length = 88 := by decide +kernel
                            omega)
def rdF (k : Int) : Bool := atZ [false, true, true, true, false, false, true, true, true, false, true, true] false k
def aF (k : Int) : Bool := atZ [false, false, false, true, true, true, true, true, true, false, true, true] false k
def bF (k : Int) : Bool := atZ [false, false, false, false, true, true, true, false, false, false, false, true] false k
def oF (k : Int) : Bool := atZ [false, false, false, false, false, false, false, false, false, false, true, true] false k
def fitZ (x n : Int) : Bool := if 1 ≤ n ∧ n ≤ 64 then fitsB x n.toNat else false
def regB (r : Int) (u : Bool) : Bool := if u = true then decide (0 ≤ r ∧ r ≤ 31) else decide (r = 0)
def evenB (v : Int) : Bool := v.tmod 2 == 0
def btwB (v l m : Int) : Bool := decide (l ≤ v ∧ v ≤ m)
def wideB (op : Int) : Bool := op == 14 || (op == 21 || btwB op 77 87)
def immB (v k : Int) : Bool :=
  bif k == 1 then fitZ v 20 else bif k == 2 then evenB v && fitZ v 21 else bif k == 4 then evenB v && fitZ v 13 else bif k == 3 then fitZ v 12 else bif k == 5 then fitZ v 12
  else bif k == 7 then btwB v 0 63 else bif k == 8 then btwB v 0 31 else bif k == 9 then btwB v 0 255 else v == 0
structure In where
  op : Int
  rd : Int
  a : Int
  b : Int
  imm : Int
  aq : Bool
  rl : Bool
def inV (i : In) : Value := .agg #[.int .i64 i.op, .int .i64 i.rd, .int .i64 i.a, .int .i64 i.b, .int .i64 i.imm, .bool i.aq, .bool i.rl]
def mayB (i : In) : Bool :=
  okB i.op && (regB i.rd (rdF (formZ i.op)) && (regB i.a (aF (formZ i.op)) && (regB i.b (bF (formZ i.op)) && (immB i.imm (formZ i.op) && (oF (formZ i.op) || (!i.aq && !i.rl))))))
def decIn : List Value → Option In
  | [.agg cs] => match cs.toList with
    | [.int .i64 a, .int .i64 b, .int .i64 c, .int .i64 d, .int .i64 e, .bool f, .bool g] => some ⟨a, b, c, d, e, f, g⟩
    | _ => none
  | _ => none
theorem decIn_eq : ∀ (l : List Value) (i : In), decIn l = some i → l = [inV i] := by
  intro l i h
  unfold decIn at h
  split at h
  · rename_i cs
    split at h
    · rename_i a b c d e f g hc
      simp only [Option.some.injEq] at h
      subst h
      have : cs = #[.int .i64 a, .int .i64 b, .int .i64 c, .int .i64 d, .int .i64 e, .bool f, .bool g] := by rw [← Array.toArray_toList (xs := cs), hc]
      rw [this]; rfl
    · cases h
  · cases h
end Go.Proofs.YtiajbijbhhpllaaDoor
namespace Go.Proofs.YtiajbijbhhpllaaDoor.Sim
open Go Go.RowKit
def evalPure {α : Type} (P : Program) : Sem α → Option α
  | .pure a => some a
  | .program k => evalPure P (k P)
  | .mark _ k => evalPure P k
  | _ => none
theorem evalPure_run {α : Type} {P : Program} (s : Sem α) : ∀ {a : α}, evalPure P s = some a → ∀ w, s.run P w = .ok a w := by
  induction s with
  | pure a => intro b h w; simp [evalPure] at h; subst h; rfl
  | program k ih => intro b h w; exact ih P h w
  | mark m k ih => intro b h w; exact ih h w
  | _ => intro b h; simp [evalPure] at h
abbrev SV := Sum (List Bool × Value) (Nat × Nat × Option (Nat × Nat))
def conc (loc : Nat → Nat) : SV → Value
  | .inl (_, x) => x
  | .inr (i, off, none) => .pointer (some ⟨loc i, off, none⟩)
  | .inr (i, off, some (len, cap)) => .slice (some ⟨loc i, off, none⟩) len cap
def okV (n : Nat) : SV → Prop
  | .inl (_, _) => True
  | .inr (i, _, none) => i < n
  | .inr (i, _, some (_, _)) => i < n
structure Blk where
  cells : List Value
  elem : TypeId
  fl : List Bool
def cut (fl : List Bool) (off : Nat) : Nat → List Bool
  | 0 => []
  | n + 1 => (fl[off]?).getD false :: cut fl (off + 1) n
def over (fl : List Bool) (off : Nat) (new : List Bool) (n : Nat) : List Bool := cut fl 0 off ++ cut new 0 n ++ fl.drop (off + n)
def anyF : List Bool → Bool
  | [] => false
  | b :: r => b || anyF r
structure St where
  tmps : List (Nat × SV)
  own : List Blk
  lo : Nat
  mem : Bool
  orc : List Bool
  obl : List (Bool × Bool)
structure Env where
  P : Program
  glob : Nat → Option (List Value)
  call : FuncId → Array Value → Option Value
  /-- Calls that answer so under a condition: the condition is asked of the user. -/
  pcall : FuncId → List Value → Option (Value × Bool) := fun _ _ => none
def look : List (Nat × SV) → Nat → SV
  | [], _ => .inl ([], undef)
  | (d, x) :: r, t => bif Nat.beq d t then x else look r t
def ev (s : St) : Operand → SV
  | .tmp t => look s.tmps t
  | .const c => .inl ([], c)
  | .global g => .inl ([], (.pointer (some ⟨g, 0, none⟩)))
  | .func f => .inl ([], (.func (.func f) #[] #[]))
def rho (s : St) (x : Operand) : Value := match ev s x with | .inl (_, y) => y | _ => undef
def isV : SV → Bool
  | .inl (_, _) => true
  | _ => false
def flS : SV → List Bool
  | .inl (fl, _) => fl
  | _ => []
def openS (s : St) : List Operand → Bool
  | [] => false
  | x :: r => anyF (flS (ev s x)) || openS s r
def aggD : TypeDesc → Bool
  | .struct _ | .array _ _ => true
  | _ => false
def loadB (P : Program) (t : TypeId) (cs : List Value) (off : Nat) : Option Value :=
  match P.underlying t, P.info? t with
  | some d, some i =>
    bif aggD d then (bif Nat.ble (off + i.size) cs.length then some (.agg ((cs.drop off).take i.size).toArray) else none)
    else cs[off]?
  | _, _ => none
def putL : List Value → Nat → List Value → List Value
  | c, _, [] => c
  | c, o, v :: r => putL (c.set o v) (o + 1) r
def putQ (c : List Value) (o : Nat) (vs : List Value) : List Value := bif Nat.beq o 0 && Nat.beq vs.length c.length then vs else putL c o vs
def storeB (P : Program) (t : TypeId) (cs : List Value) (off : Nat) (v : Value) : Option (List Value) :=
  match P.info? t with
  | some i => bif Nat.beq v.cells.toList.length i.size && Nat.ble (off + i.size) cs.length && v.cells.toList.all Value.oneCell' then some (putQ cs off v.cells.toList) else none
  | none => none
def fieldB (P : Program) (t : TypeId) (f off : Nat) : Option Nat :=
  match P.underlying t with
  | some (.struct fs) => match fs[f]? with
    | some fl => match P.info? fl.type with
      | some i => bif Nat.beq i.size 0 then none else some (off + fl.offset)
      | none => none
    | none => none
  | _ => none
def elemB (P : Program) (e : TypeId) (len off : Nat) (n : Int) : Option Nat :=
  match P.info? e with
  | some i => bif decide (0 ≤ n ∧ n < (len : Int)) then some (off + n.toNat * i.size) else none
  | none => none
def litB (P : Program) (t : TypeId) (len : Nat) (parts : List (Nat × Value)) : Option (List Value × TypeId) :=
  match P.underlying t with
  | some (.slice e) => match P.info? e with
    | some i => match i.zero with
      | some z => bif Nat.beq (len * i.size) 0 || Nat.blt (2 ^ 24) (len * i.size) then (match len, parts with
        | 0, [] => some ([], e)
        | _, _ => none) else
        (match Instr.fill (fun k => some (k * i.size, i.size)) ((Array.range (len * i.size)).map fun k => z.cells[k % z.cells.size]!) parts with
        | some cells => some (cells.toList, e)
        | none => none)
      | none => none
    | none => none
  | _ => none
def notSel : Op → Bool
  | .select _ _ => false
  | _ => true
def generic (E : Env) (o : Oper) (s : St) : Option (SV × Bool) :=
  bif notSel o.op && o.op.operands.toList.all (fun x => isV (ev s x)) then
    match evalPure E.P (execOp (rho s) o) with
    | some (.value v) => some (.inl ([openS s o.op.operands.toList], v), false)
    | some (.enter f args) => match E.call f args with
      | some v => some (.inl ((List.replicate v.cells.size (openS s o.op.operands.toList)), v), true)
      | none => none
    | _ => none
  else none
def fieldF (P : Program) (t : TypeId) (f : Nat) (fl : List Bool) : List Bool :=
  match P.underlying t with
  | some (.struct fs) => match fs[f]? with
    | some fl' => cut fl fl'.offset (P.cellsOf fl'.type)
    | none => []
  | _ => []
def cmpI : BinOp → Int → Int → Option Bool
  | .eql, a, b => some (a == b)
  | .neq, a, b => some (a != b)
  | .lss, a, b => some (decide (a < b))
  | .leq, a, b => some (decide (a ≤ b))
  | .gtr, a, b => some (decide (a > b))
  | .geq, a, b => some (decide (a ≥ b))
  | _, _, _ => none
def eqFs (P : Program) (rec : TypeId → Value → Value → Option Bool) (xs ys : Array Value) : List Field → Option Bool
  | [] => some true
  | f :: r => bif f.name == "_" then none else (match evalPure P (part f.type xs f.offset), evalPure P (part f.type ys f.offset) with
    | some a, some b => match rec f.type a b with
      | some e => match eqFs P rec xs ys r with
        | some q => some (e && q)
        | none => none
      | none => none
    | _, _ => none)
def eqB (P : Program) : Nat → TypeId → Value → Value → Option Bool
  | 0, _, _, _ => none
  | n + 1, t, x, y => match P.underlying t, x, y with
    | some .bool, .bool a, .bool b => some (a == b)
    | some (.int _), .int k a, .int j b => bif decide (k = j) then some (a == b) else none
    | some .string, .string a, .string b => some (a.toList == b.toList)
    | some (.struct fs), .agg xs, .agg ys => bif P.stoodInHeld t then none else eqFs P (eqB P n) xs ys fs.toList
    | _, _, _ => none
def eqTop (P : Program) (op : BinOp) (t : TypeId) (x y : Value) : Option Bool :=
  bif P.eqGuardType P.depth t then none else match op with
    | .eql => eqB P 20 t x y
    | .neq => (match eqB P 20 t x y with
      | some b => some (!b)
      | none => none)
    | _ => none
def simRO (E : Env) (o : Oper) (s : St) : Option (SV × Bool) :=
  match o.op with
  | .move x => some (ev s x, false)
  | .assign x => some (ev s x, false)
  | .nilCheck x => match ev s x with
    | .inr (i, off, none) => some (.inr (i, off, none), false)
    | .inl (_, _) => generic E o s
    | .inr (_, _, some (_, _)) => none
  | .load t x => match ev s x with
    | .inr (i, off, none) => match s.own[i]? with
      | some b => match loadB E.P t b.cells off with
        | some v => some (.inl ((cut b.fl off v.cells.size), v), false)
        | none => none
      | none => none
    | .inl (_, (.pointer (some ⟨g, off, none⟩))) => match E.glob g with
      | some cs => match loadB E.P t cs off with
        | some v => some (.inl ([], v), false)
        | none => none
      | none => none
    | _ => none
  | .fieldAddr t x f => match ev s x with
    | .inr (i, off, none) => match fieldB E.P t f off with
      | some off' => some (.inr (i, off', none), false)
      | none => none
    | .inl (_, _) => generic E o s
    | .inr (_, _, some (_, _)) => none
  | .indexAddr t x ix => match ev s x, ev s ix with
    | .inr (i, off, none), .inl (_, (.int k n)) => match E.P.underlying t with
      | some (.array len e) => match elemB E.P e len off n with
        | some off' => some (.inr (i, off', none), false)
        | none => none
      | _ => none
    | .inr (i, off, some (len, cap)), .inl (_, (.int k n)) => match E.P.underlying t with
      | some (.slice e) => match elemB E.P e len off n with
        | some off' => some (.inr (i, off', none), false)
        | none => none
      | _ => none
    | _, _ => generic E o s
  | .binOp op t x y _ => match ev s x, ev s y with
    | .inl (f, (.int k a)), .inl (g, (.int j b)) => match decide (k = j), cmpI op a b with
      | true, some r => some (.inl ([anyF f || anyF g], (.bool r)), false)
      | _, _ => generic E o s
    | .inl (f, (.agg a)), .inl (g, (.agg b)) => match eqTop E.P op t (.agg a) (.agg b) with
      | some r => some (.inl ([anyF f || anyF g], (.bool r)), false)
      | none => generic E o s
    | _, _ => generic E o s
  | .build _ _ => match generic E o s with
    | some (.inl (fl, v), c) => some (.inl ((List.replicate v.cells.size (anyF fl)), v), c)
    | r => r
  | .field t x f => match generic E o s with
    | some (.inl (_, v), c) => some (.inl ((fieldF E.P t f (flS (ev s x))), v), c)
    | r => r
  | .call { callee := .builtin .len, args := az, argTypes := ats } => match az.toList, ats.toList with
    | [x], [t] => match ev s x, E.P.underlying t with
      | .inr (i, off, some (len, cap)), some (.slice _) => some (.inl ([], (.int .i64 len)), false)
      | _, _ => generic E o s
    | _, _ => generic E o s
  | _ => generic E o s
def simFX (E : Env) (o : Oper) (s : St) : Option (SV × List Blk) :=
  match o.op with
  | .alloc t => match E.P.info? t with
    | some i => match i.zero with
      | some z => some (.inr (s.own.length, 0, none), s.own ++ [⟨z.cells.toList, t, []⟩])
      | none => none
    | none => none
  | .box t x => match ev s x with
    | .inl (fl, y) => some (.inr (s.own.length, 0, none), s.own ++ [⟨y.cells.toList, t, fl⟩])
    | _ => none
  | .store t x y => match ev s x, ev s y with
    | .inr (i, off, none), .inl (fl, u) => bif Nat.ble s.lo i then (match s.own[i]? with
      | some b => match storeB E.P t b.cells off u with
        | some cs => some (.inl ([], undef), s.own.set i ⟨cs, b.elem, over b.fl off fl u.cells.size⟩)
        | none => none
      | none => none) else none
    | _, _ => none
  | .buildSlice t len parts => bif parts.toList.all (fun p => isV (ev s p.2)) then
      (match litB E.P t len (parts.toList.map fun p => (p.1, rho s p.2)) with
      | some (cells, e) => some (.inr (s.own.length, 0, some (len, len)), s.own ++ [⟨cells, e, []⟩])
      | none => none) else none
  | _ => none
def putS (n : Nat) (dst : Option Tmp) (x : SV) (s : St) : Option St :=
  match dst with
  | none => some s
  | some d => bif Nat.blt d n then some { s with tmps := (d, x) :: s.tmps } else none
def ask (s : St) (fl : List Bool) (b : Bool) : Bool × St :=
  bif anyF fl then (match s.orc with
    | [] => (b, s)
    | t :: r => (t, { s with orc := r, obl := (b, t) :: s.obl }))
  else (b, s)
def know (s : St) (d : Nat) (b : Bool) : St := { s with tmps := (d, .inl ([], (.bool b))) :: s.tmps }
def askC (s : St) (c : Operand) (fl : List Bool) (b : Bool) : Bool × St :=
  match c with
  | .tmp d => ((ask s fl b).1, know (ask s fl b).2 d (ask s fl b).1)
  | _ => ask s fl b
def wantS (n : Nat) (ops : Array Oper) (o : Oper) (s : St) : Option (Bool × St) :=
  match o.guard with
  | none => some (true, s)
  | some (j, want) => match (ops[j]?).bind (·.dst) with
    | some d => bif Nat.blt d n then (match look s.tmps d with
      | .inl (fl, (.bool b)) => some ((ask s fl b).1 == want, know (ask s fl b).2 d (ask s fl b).1)
      | .inl (_, (.tuple _)) => some (false, s)
      | _ => none) else none
    | none => none
def callArgs (s : St) (o : Oper) : Option (FuncId × List SV) :=
  match o.op with
  | .call { callee := .value (.func f), args := az, argTypes := _ } => some (f, az.toList.map (ev s))
  | _ => none
abbrev Callee := FuncId → List SV → St → Option (SV × St)
def simOps (E : Env) (cl : Callee) (n : Nat) (ops : Array Oper) (ro : Bool) : List Oper → St → Option St
  | [], s => some s
  | o :: rest, s => match wantS n ops o s with
    | none => none
    | some (false, s1) => match putS n o.dst (.inl ([], undef)) s1 with
      | some s2 => simOps E cl n ops ro rest s2
      | none => none
    | some (true, s1) => match (bif ro then none else simFX E o s1) with
      | some (x, own) => match putS n o.dst x { s1 with own := own, mem := true } with
        | some s2 => simOps E cl n ops ro rest s2
        | none => none
      | none => match simRO E o s1 with
        | some (x, c) => match putS n o.dst x { s1 with mem := s1.mem || c } with
          | some s2 => simOps E cl n ops ro rest s2
          | none => none
        | none => match callArgs s1 o with
          | none => none
          | some (f, args) => bif ro then
              (match cl f args { s1 with lo := s1.own.length } with
              | some (.inl (fl, x), s2) => match putS n o.dst (.inl (fl, x)) { s1 with mem := true, orc := s2.orc, obl := s2.obl } with
                | some s3 => simOps E cl n ops ro rest s3
                | none => none
              | _ => none)
            else (match cl f args s1 with
              | some (x, s2) => match putS n o.dst x { s1 with own := s2.own, mem := s2.mem, orc := s2.orc, obl := s2.obl } with
                | some s3 => simOps E cl n ops ro rest s3
                | none => none
              | none => none)
abbrev X := Option (Option Nat)
def X.toExit : X → Exit
  | none => .normal
  | some none => .ret
  | some (some i) => .exit i
def resV (P : Program) (s : St) : ResultVar → Option SV
  | .tmp t => some (look s.tmps t)
  | .cell a t => match look s.tmps a with
    | .inr (i, off, none) => match s.own[i]? with
      | some b => match loadB P t b.cells off with
        | some v => some (.inl ((cut b.fl off v.cells.size), v))
        | none => none
      | none => none
    | _ => none
def resTup : Option SV → Option SV → Option SV
  | some (.inl (f, x)), some (.inl (g, y)) => some (.inl ([anyF f || anyF g], (.tuple #[x, y])))
  | _, _ => none
def resTup3 : Option SV → Option SV → Option SV → Option SV
  | some (.inl (f, x)), some (.inl (g, y)), some (.inl (h, z)) => some (.inl ([anyF f || anyF g || anyF h], (.tuple #[x, y, z])))
  | _, _, _ => none
def simRes (P : Program) (fn : Func) (s : St) : Option SV :=
  match fn.results.toList with
  | [] => some (.inl ([], (.tuple #[])))
  | [r] => resV P s r
  | [r1, r2] => resTup (resV P s r1) (resV P s r2)
  | [r1, r2, r3] => resTup3 (resV P s r1) (resV P s r2) (resV P s r3)
  | _ => none
def initS : Nat → List SV → List (Nat × SV)
  | _, [] => []
  | i, x :: r => (i, x) :: initS (i + 1) r
abbrev Runner := Nat → Code → St → Option (X × St)
def argsV : List SV → Option (List Value)
  | [] => some []
  | .inl (_, v) :: r => match argsV r with
    | some l => some (v :: l)
    | none => none
  | .inr _ :: _ => none
def pcallS (E : Env) : Callee := fun f args s =>
  match argsV args with
  | some l => match E.pcall f l with
    | some (v, b) => match E.P.funcs[f]? with
      | some fn => bif fn.name == "runtime.NumGoroutine" || fn.body.isNone then none else
        some (.inl (List.replicate v.cells.size (args.any fun x => anyF (flS x)), v), { s with mem := true, obl := (b, true) :: s.obl })
      | none => none
    | none => none
  | none => none
def enterO (E : Env) (ih : Runner) : Callee := fun f args s =>
  match E.P.funcs[f]? with
  | some fn => bif fn.name == "runtime.NumGoroutine" then none else (match fn.body with
    | some c => match ih (args.length + (fn.ntmps - args.length)) c { s with tmps := initS 0 args } with
      | some (none, s') => match simRes E.P fn s' with
        | some x => some (x, s')
        | none => none
      | some (some none, s') => match simRes E.P fn s' with
        | some x => some (x, s')
        | none => none
      | _ => none
    | none => none)
  | none => none
def enterS (E : Env) (ih : Runner) : Callee := fun f args s => match pcallS E f args s with
  | some r => some r
  | none => enterO E ih f args s
def stepC (E : Env) (ih : Runner) (n : Nat) : Code → St → Option (X × St)
  | .skip, s => some (none, s)
  | .label _, s => some (none, s)
  | .region _ ops false, s => match simOps E (enterS E ih) n ops false ops.toList s with
    | some s' => some (none, s')
    | none => none
  | .region _ ops true, s => bif E.P.follows .mixedOrders && Region.lexB .any ops then (match simOps E (enterS E ih) n ops true ops.toList { s with mem := true } with
    | some s' => some (none, s')
    | none => none) else none
  | .seq x y, s => match ih n x s with
    | some (none, s') => ih n y s'
    | r => r
  | .cond c x y, s => match ev s c with
    | .inl (fl, (.bool b)) => match askC s c fl b with
      | (true, s') => ih n x s'
      | (false, s') => ih n y s'
    | _ => none
  | .block id x, s => match ih n x s with
    | some (some (some i), s') => bif Nat.beq i id then some (none, s') else some (some (some i), s')
    | r => r
  | .loop x, s => match ih n x s with
    | some (none, s') => ih n (.loop x) s'
    | r => r
  | .exit id, s => some (some (some id), s)
  | .ret, s => some (some none, s)
  | _, _ => none
def simC (E : Env) (fuel : Nat) : Runner :=
  Nat.rec (fun _ _ _ => none) (fun _ ih n c s => stepC E ih n c s) fuel
def initA (fl : List (List Bool)) : Nat → List Value → List SV
  | _, [] => []
  | i, v :: r => .inl (((fl[i]?).getD []), v) :: initA fl (i + 1) r
def simEnd (E : Env) (fuel : Nat) (fl : List (List Bool)) (orc : List Bool) (f : FuncId) (args : List Value) : Option (SV × St) :=
  enterS E (simC E fuel) f (initA fl 0 args) { tmps := [], own := [], lo := 0, mem := false, orc := orc, obl := [] }
def simCall (E : Env) (fuel : Nat) (fl : List (List Bool)) (orc : List Bool) (f : FuncId) (args : List Value) : Option (Value × List (Bool × Bool) × Bool) :=
  match simEnd E fuel fl orc f args with
  | some (.inl (_, x), s) => some (x, s.obl, s.mem)
  | _ => none
end Go.Proofs.YtiajbijbhhpllaaDoor.Sim
namespace Go.Proofs.YtiajbijbhhpllaaDoor.Sim
open Go Go.RowKit
def Agree (n : Nat) (loc loc' : Nat → Nat) : Prop := ∀ i, i < n → loc i = loc' i
theorem Agree.refl (n : Nat) (loc : Nat → Nat) : Agree n loc loc := fun _ _ => rfl
theorem Agree.trans {n m : Nat} {a b c : Nat → Nat} (h : Agree n a b) (k : Agree m b c) (hl : n ≤ m) : Agree n a c := fun i hi => (h i hi).trans (k i (by omega))
theorem conc_congr {loc loc' : Nat → Nat} {n : Nat} {x : SV} (h : okV n x) (hl : Agree n loc loc') : conc loc x = conc loc' x := by
  rcases x with ⟨fl, x⟩ | ⟨i, off, _ | ⟨len, cap⟩⟩
  · rfl
  · simp [conc, hl i h]
  · simp [conc, hl i h]
theorem okV.mono {n m : Nat} {x : SV} (h : okV n x) (hl : n ≤ m) : okV m x := by
  rcases x with ⟨fl, x⟩ | ⟨i, off, _ | ⟨len, cap⟩⟩
  · trivial
  · exact Nat.lt_of_lt_of_le h hl
  · exact Nat.lt_of_lt_of_le h hl
theorem look_ok {n : Nat} : ∀ {l : List (Nat × SV)} {t : Nat}, (∀ p ∈ l, okV n p.2) → okV n (look l t)
  | [], _, _ => trivial
  | (d, x) :: r, t, h => by
    unfold look
    cases hb : Nat.beq d t
    · exact look_ok fun p hp => h p (List.mem_cons_of_mem _ hp)
    · exact h (d, x) (List.mem_cons_self)
structure WR (w0 : World) (loc : Nat → Nat) (own : List Blk) (mem : Bool) (w : World) : Prop where
  below : Below w0.heap.size w0 w
  blk : ∀ i b, own[i]? = some b → w.heap[loc i]? = some (.cells b.cells.toArray b.elem (0, 0)) ∧ w0.heap.size ≤ loc i
  inj : ∀ i j, i < own.length → j < own.length → loc i = loc j → i = j
  same : mem = false → w = w0
structure TR (n : Nat) (loc : Nat → Nat) (s : St) (a : Act) : Prop where
  size : a.tmps.size = n
  tm : ∀ t, a.tmps.getD t undef = conc loc (look s.tmps t)
  df : a.defers = []
structure Good (s : St) : Prop where
  lo : s.lo ≤ s.own.length
  ok : ∀ p ∈ s.tmps, okV s.own.length p.2
def Holds' (s : St) : Prop := ∀ p ∈ s.obl, p.1 = p.2
structure Le (s s' : St) : Prop where
  ext : ∀ p ∈ s.obl, p ∈ s'.obl
  len : s.own.length ≤ s'.own.length
  lo : s'.lo = s.lo
  keep : ∀ i, i < s.lo → s'.own[i]? = s.own[i]?
theorem Le.refl (s : St) : Le s s := ⟨fun _ h => h, Nat.le_refl _, rfl, fun _ _ => rfl⟩
theorem Le.trans {s t u : St} (h : Le s t) (k : Le t u) : Le s u :=
  ⟨fun p hp => k.ext p (h.ext p hp), Nat.le_trans h.len k.len, k.lo.trans h.lo, fun i hi => (k.keep i (by rw [h.lo]; exact hi)).trans (h.keep i hi)⟩
theorem Le.holds {s s' : St} (h : Le s s') (k : Holds' s') : Holds' s := fun p hp => k p (h.ext p hp)
def exactL : List Value → Bool
  | .int .u64 _ :: _ => true
  | _ => false
def GlobW (gl : Nat → Option (List Value)) (w : World) : Prop := ∀ g cs, gl g = some cs → (∀ (i : Nat) v, cs[i]? = some v → w.cell? ⟨g, i, none⟩ = some v) ∧ (exactL cs = true → ∀ i : Nat, w.cell? ⟨g, i, none⟩ = cs[i]?)
abbrev Glob (E : Env) (w : World) : Prop := GlobW E.glob w
def CallOk (E : Env) : Prop := (∀ f args v, E.call f args = some v → ∀ w, Glob E w → Calls E.P f args w fun e w' => e = .returned v ∧ Below w.heap.size w w') ∧
  ∀ f args v, E.pcall f args = some (v, true) → ∀ w, Glob E w → Calls E.P f args.toArray w fun e w' => e = .returned v ∧ Below w.heap.size w w'
theorem lt_of_some {α : Type} {a : Array α} {i : Nat} {x : α} (h : a[i]? = some x) : i < a.size := by
  rcases Nat.lt_or_ge i a.size with h' | h'
  · exact h'
  · rw [Array.getElem?_eq_none h'] at h; cases h
theorem lt_of_some_list {α : Type} {a : List α} {i : Nat} {x : α} (h : a[i]? = some x) : i < a.length := by
  rcases Nat.lt_or_ge i a.length with h' | h'
  · exact h'
  · rw [List.getElem?_eq_none h'] at h; cases h
theorem GlobW.below {gl : Nat → Option (List Value)} {w w' : World} (h : GlobW gl w) (hb : Below w.heap.size w w') : GlobW gl w' := fun g cs hg => by
  obtain ⟨k1, k2⟩ := h g cs hg
  refine ⟨fun i v hv => ?_, fun he i => ?_⟩
  · have h0 := k1 i v hv
    rw [hb.cell (p := ⟨g, i, none⟩) (block_lt_of_cell h0)]; exact h0
  · cases cs with
    | nil => cases he
    | cons v r =>
      have h0 := k1 0 v rfl
      rw [hb.cell (p := ⟨g, i, none⟩) (show g < w.heap.size from block_lt_of_cell h0)]; exact k2 he i
theorem WR.calls {w0 : World} {loc : Nat → Nat} {own : List Blk} {mem : Bool} {w w' : World} (h : WR w0 loc own mem w) (hb : Below w.heap.size w w') : WR w0 loc own true w' :=
  ⟨h.below.trans (hb.mono h.below.size), fun i b hi => by
    obtain ⟨h1, h2⟩ := h.blk i b hi
    exact ⟨by rw [hb.block _ (lt_of_some h1)]; exact h1, h2⟩, h.inj, fun h => by cases h⟩
theorem WR.mem {w0 : World} {loc : Nat → Nat} {own : List Blk} {mem : Bool} {w : World} (h : WR w0 loc own mem w) : WR w0 loc own true w :=
  ⟨h.below, h.blk, h.inj, fun h => by cases h⟩
theorem WR.restrict {w0 : World} {loc loc' : Nat → Nat} {own own' : List Blk} {mem : Bool} {w : World} (h : WR w0 loc' own' mem w) (ha : Agree own.length loc loc') (hl : own.length ≤ own'.length) (hk : ∀ i, i < own.length → own'[i]? = own[i]?) : WR w0 loc own true w :=
  ⟨h.below, fun i b hi => by
    have hlt := lt_of_some_list hi
    rw [ha i hlt]
    exact h.blk i b (by rw [hk i hlt]; exact hi), fun i j hi hj he => h.inj i j (by omega) (by omega) (by rw [← ha i hi, ← ha j hj]; exact he), fun h => by cases h⟩
theorem eval_ev {n : Nat} {loc : Nat → Nat} {s : St} {a : Act} (h : TR n loc s a) (x : Operand) : a.eval x = conc loc (ev s x) := by
  cases x with
  | tmp t => exact h.tm t
  | const v => rfl
  | global g => rfl
  | func f => rfl
theorem eval_rho {n : Nat} {loc : Nat → Nat} {s : St} {a : Act} (h : TR n loc s a) {x : Operand} (hx : isV (ev s x) = true) : a.eval x = rho s x := by
  rw [eval_ev h]
  unfold rho
  rcases he : ev s x with ⟨fl, y⟩ | ⟨i, off, _ | ⟨len, cap⟩⟩
  · rfl
  · rw [he] at hx; cases hx
  · rw [he] at hx; cases hx
theorem eval_v {n : Nat} {loc : Nat → Nat} {s : St} {a : Act} (h : TR n loc s a) {x : Operand} {fl : List Bool} {y : Value} (hx : ev s x = .inl (fl, y)) : a.eval x = y := by rw [eval_ev h, hx]; rfl
theorem eval_own {n : Nat} {loc : Nat → Nat} {s : St} {a : Act} (h : TR n loc s a) {x : Operand} {i off : Nat} (hx : ev s x = .inr (i, off, none)) : a.eval x = .pointer (some ⟨loc i, off, none⟩) := by rw [eval_ev h, hx]; rfl
theorem eval_sl {n : Nat} {loc : Nat → Nat} {s : St} {a : Act} (h : TR n loc s a) {x : Operand} {i off len cap : Nat} (hx : ev s x = .inr (i, off, some (len, cap))) : a.eval x = .slice (some ⟨loc i, off, none⟩) len cap := by rw [eval_ev h, hx]; rfl
theorem ev_ok {s : St} (h : Good s) (x : Operand) : okV s.own.length (ev s x) := by
  cases x with
  | tmp t => exact look_ok h.ok
  | _ => exact trivial
theorem add_plain (g off n : Nat) : (⟨g, off, none⟩ : Addr).add n = ⟨g, off + n, none⟩ := by
  unfold Addr.add
  by_cases h : n = 0
  · subst h; simp
  · simp [h]
theorem run_loadB {P : Program} {t : TypeId} {cs : List Value} {off g : Nat} {v : Value} (h : loadB P t cs off = some v) (w : World)
    (hc : ∀ (i : Nat) u, cs[i]? = some u → w.cell? ⟨g, i, none⟩ = some u) : (loadVar t ⟨g, off, none⟩).run P w = .ok v w := by
  unfold loadB at h
  cases hu : P.underlying t with
  | none => simp [hu] at h
  | some d =>
    cases hi : P.info? t with
    | none => simp [hu, hi] at h
    | some i =>
      simp only [hu, hi] at h
      have hagg : (isAgg t).run P w = .ok (aggD d) w := by
        unfold isAgg
        rw [Sem.run_bind, run_underlying hu w]
        cases d <;> rfl
      cases hd : aggD d
      · rw [hd] at h
        simp only [cond_false] at h
        have h0 := hc off v h
        simp only [loadVar, Sem.run_bind, hagg, hd, Result.andThen_ok, Bool.false_eq_true, if_false, run_load, h0]
      · rw [hd] at h
        simp only [cond_true] at h
        cases hb : Nat.ble (off + i.size) cs.length
        · rw [hb] at h; cases h
        · rw [hb] at h
          simp only [cond_true, Option.some.injEq] at h
          have hle : off + i.size ≤ cs.length := Nat.le_of_ble_eq_true hb
          have hl : ((cs.drop off).take i.size).length = i.size := by simp; omega
          have hrun := run_loadCells_list (P := P) w ⟨g, off, none⟩ ((cs.drop off).take i.size) (fun j u hj => by
            rw [add_plain]
            refine hc _ _ ?_
            rw [List.getElem?_take] at hj
            split at hj
            · rw [List.getElem?_drop] at hj; exact hj
            · cases hj)
          rw [hl] at hrun
          simp only [loadVar, Sem.run_bind, hagg, hd, Result.andThen_ok, if_true, sizeOf, typeInfo, run_program, hi, Sem.run_pure, hrun, h]
theorem cells_of_blk {w : World} {g : Nat} {cs : List Value} {e : TypeId} (h : w.heap[g]? = some (.cells cs.toArray e (0, 0))) : ∀ (i : Nat) u, cs[i]? = some u → w.cell? ⟨g, i, none⟩ = some u := fun i u hu => by
  rw [cell_of_row w g i _ _ _ h]; simpa using hu
theorem putL_len : ∀ (vs : List Value) (c : List Value) (o : Nat), (putL c o vs).length = c.length
  | [], _, _ => rfl
  | v :: r, c, o => by unfold putL; rw [putL_len r]; simp
theorem putL_at : ∀ (vs c d : List Value), vs.length = d.length → putL (c ++ d) c.length vs = c ++ vs
  | [], c, [], _ => rfl
  | v :: r, c, [], h => by simp at h
  | [], c, _ :: _, h => by simp at h
  | v :: r, c, x :: d, h => by
    unfold putL
    have e : (c ++ x :: d).set c.length v = (c ++ [v]) ++ d := by simp
    rw [e]
    have := putL_at r (c ++ [v]) d (by simpa using h)
    rw [List.length_append] at this
    rw [show c.length + 1 = c.length + [v].length from rfl, this]; simp
theorem putQ_eq (c : List Value) (o : Nat) (vs : List Value) : putQ c o vs = putL c o vs := by
  unfold putQ
  cases hb : (Nat.beq o 0 && Nat.beq vs.length c.length)
  · rfl
  · simp only [Bool.and_eq_true] at hb
    have h0 := Nat.eq_of_beq_eq_true hb.1
    subst h0
    exact (putL_at vs [] c (Nat.eq_of_beq_eq_true hb.2)).symm
theorem run_storeCells {P : Program} {g : Nat} {e : TypeId} (off : Nat) : ∀ (vs : List Value) (i : Nat) (c : List Value) (w : World), w.heap[g]? = some (.cells c.toArray e (0, 0)) → off + i + vs.length ≤ c.length → vs.all Value.oneCell' = true →
    ∃ w', (storeCells ⟨g, off, none⟩ vs i).run P w = .ok () w' ∧ w'.heap[g]? = some (.cells (putL c (off + i) vs).toArray e (0, 0)) ∧ (∀ k, k ≠ g → w'.heap[k]? = w.heap[k]?) ∧ w'.heap.size = w.heap.size ∧ w'.os = w.os ∧ w'.tape = w.tape ∧ w'.output = w.output
  | [], i, c, w, hg, _, _ => ⟨w, rfl, hg, fun _ _ => rfl, rfl, rfl, rfl, rfl⟩
  | v :: r, i, c, w, hg, hl, hv => by
    simp only [List.all_cons, Bool.and_eq_true] at hv
    simp only [List.length_cons] at hl
    have hlt : off + i < c.length := by omega
    have hc : w.cell? ⟨g, off + i, none⟩ = some c[off + i] := by
      rw [cell_of_row w g _ _ _ _ hg]; simp [hlt]
    have hf : w.frozen? ⟨g, off + i, none⟩ = false := frozen_of_row w g _ _ _ hg
    have hg1 : (w.setCell ⟨g, off + i, none⟩ v).heap[g]? = some (.cells (c.set (off + i) v).toArray e (0, 0)) := by
      rw [heap_setCell_same w g _ _ _ v hg]; simp
    obtain ⟨w', h1, h2, h3, h4, h5, h6, h7⟩ := run_storeCells (P := P) off r (i + 1) (c.set (off + i) v) (w.setCell ⟨g, off + i, none⟩ v) hg1 (by simp; omega) hv.2
    refine ⟨w', ?_, h2, fun k hk => (h3 k hk).trans (heap_setCell_other w _ k v hk), h4.trans (World.size_setCell ..), h5, h6, h7⟩
    unfold storeCells
    rw [Sem.run_bind, add_plain, run_store P w _ v .plain hv.1]
    simp only [hc, hf, Bool.false_eq_true, if_false, Result.andThen_ok]
    exact h1
theorem run_storeB {P : Program} {t : TypeId} {cs cs' : List Value} {off g : Nat} {e : TypeId} {v : Value} (h : storeB P t cs off v = some cs') (w : World) (hg : w.heap[g]? = some (.cells cs.toArray e (0, 0))) :
    ∃ w', (storeVar t ⟨g, off, none⟩ v).run P w = .ok () w' ∧ w'.heap[g]? = some (.cells cs'.toArray e (0, 0)) ∧ (∀ k, k ≠ g → w'.heap[k]? = w.heap[k]?) ∧ w'.heap.size = w.heap.size ∧ w'.os = w.os ∧ w'.tape = w.tape ∧ w'.output = w.output := by
  unfold storeB at h
  cases hi : P.info? t with
  | none => simp [hi] at h
  | some i =>
    simp only [hi] at h
    cases hb : (Nat.beq v.cells.toList.length i.size && Nat.ble (off + i.size) cs.length && v.cells.toList.all Value.oneCell')
    · rw [hb] at h; cases h
    · rw [hb] at h
      simp only [cond_true, Option.some.injEq] at h
      simp only [Bool.and_eq_true] at hb
      obtain ⟨⟨h1, h2⟩, h3⟩ := hb
      have h1 : v.cells.toList.length = i.size := Nat.eq_of_beq_eq_true h1
      have h2 := Nat.le_of_ble_eq_true h2
      have hs : v.cells.size = i.size := by simpa using h1
      obtain ⟨w', r1, r2, r3⟩ := run_storeCells (P := P) off v.cells.toList 0 cs w hg (by rw [h1]; omega) h3
      rw [Nat.add_zero, ← putQ_eq, h] at r2
      refine ⟨w', ?_, r2, r3⟩
      simp only [storeVar, Sem.run_bind, sizeOf, typeInfo, run_program, hi, Sem.run_pure, Result.andThen_ok, hs, ne_eq, not_true_eq_false, if_false]
      exact r1
theorem run_fieldB {P : Program} {t : TypeId} {f off off' g : Nat} (h : fieldB P t f off = some off') (w : World) : (Instr.fieldAt t (.pointer (some ⟨g, off, none⟩)) f).run P w = .ok (.pointer (some ⟨g, off', none⟩)) w := by
  unfold fieldB at h
  split at h
  · rename_i fs hu
    split at h
    · rename_i fl hf
      split at h
      · rename_i i hi
        cases hb : Nat.beq i.size 0
        · rw [hb] at h
          simp only [cond_false, Option.some.injEq] at h
          have hne : ¬ i.size = 0 := fun e => by rw [e] at hb; cases hb
          simp only [Instr.fieldAt, Sem.run_bind, run_underlying hu, Result.andThen_ok, hf, Instr.sureAddr, Sem.run_pure, fieldPlace, sizeOf, typeInfo, run_program, hi, hne, if_false, add_plain, h]
        · rw [hb] at h; cases h
      · cases h
    · cases h
  · cases h
theorem run_elemB {P : Program} {t e : TypeId} {len off off' g : Nat} {k : IntKind} {n : Int} (h : elemB P e len off n = some off') (w : World) :
    (P.underlying t = some (.array len e) → (Instr.indexAt t (.pointer (some ⟨g, off, none⟩)) (.int k n)).run P w = .ok (.pointer (some ⟨g, off', none⟩)) w) ∧
    (P.underlying t = some (.slice e) → ∀ cap, (Instr.indexAt t (.slice (some ⟨g, off, none⟩) len cap) (.int k n)).run P w = .ok (.pointer (some ⟨g, off', none⟩)) w) := by
  unfold elemB at h
  split at h
  · rename_i i hi
    cases hb : decide (0 ≤ n ∧ n < (len : Int))
    · rw [hb] at h; cases h
    · rw [hb] at h
      simp only [cond_true, Option.some.injEq] at h
      have hb := of_decide_eq_true hb
      have hs : (sizeOf e).run P w = .ok i.size w := by simp [sizeOf, typeInfo, hi]
      refine ⟨fun hu => ?_, fun hu cap => ?_⟩
      · simp only [Instr.indexAt, asIntOf, Sem.run_bind, Sem.run_pure, Result.andThen_ok, run_underlying hu, Instr.sureAddr, hb, and_self, if_true, hs, add_plain, h]
      · simp only [Instr.indexAt, asIntOf, Sem.run_bind, Sem.run_pure, Result.andThen_ok, run_underlying hu, hb, and_self, if_true, hs, add_plain, h]
  · cases h
theorem run_litB {P : Program} {t e : TypeId} {len : Nat} {parts : List (Nat × Value)} {cells : List Value} (h : litB P t len parts = some (cells, e)) (w : World) :
    (Instr.buildSlice t len parts.toArray).run P w = .ok (.slice (some ⟨w.heap.size, 0, none⟩) len len) (w.alloc (.cells cells.toArray e)) := by
  unfold litB at h
  split at h
  · rename_i e' hu
    split at h
    · rename_i i hi
      split at h
      · rename_i z hz
        cases hb : (Nat.beq (len * i.size) 0 || Nat.blt (2 ^ 24) (len * i.size))
        · rw [hb] at h
          simp only [cond_false] at h
          split at h
          · rename_i cs hf
            simp only [Option.some.injEq, Prod.mk.injEq] at h
            obtain ⟨rfl, rfl⟩ := h
            simp only [Bool.or_eq_false_iff] at hb
            have h0 : ¬ len * i.size = 0 := fun e => by rw [e] at hb; exact absurd hb.1 (by decide)
            have h1 : ¬ len * i.size > 2 ^ 24 := fun e => by
              have := hb.2
              rw [Nat.blt_eq.mpr e] at this
              cases this
            simp only [Instr.buildSlice, Sem.run_bind, run_underlying hu, Result.andThen_ok, sizeOf, typeInfo, run_program, hi, Sem.run_pure, h1, if_false, h0, zeroValue, hz, hf, newRow, run_newObj, World.alloc_eq, Array.toArray_toList]
          · cases h
        · rw [hb] at h
          simp only [cond_true] at h
          split at h
          · simp only [Option.some.injEq, Prod.mk.injEq] at h
            obtain ⟨rfl, rfl⟩ := h
            simp [Instr.buildSlice, run_underlying hu, Result.andThen_ok, sizeOf, typeInfo, run_program, hi, newRow, Instr.fill]
            rw [show (Array.map (fun _ : Nat => (default : Value)) (Array.range 0)) = #[] from Array.eq_empty_of_size_eq_zero (by rw [Array.size_map, Array.size_range])]
          · cases h
      · cases h
    · cases h
  · cases h
theorem eqFs_ok {P : Program} {rec : TypeId → Value → Value → Option Bool} {D : Nat} (hrec : ∀ t x y b, rec t x y = some b → ∀ w, (Op.equalIn D t x y).run P w = .ok b w) (xs ys : Array Value) : ∀ (fs : List Field) (b : Bool), eqFs P rec xs ys fs = some b → ∀ w, (Op.eqFields D xs ys fs).run P w = .ok b w
  | [], b, h, w => by simp [eqFs] at h; subst h; simp [Op.eqFields]
  | f :: r, b, h, w => by
    unfold eqFs at h
    cases hn : (f.name == "_")
    · rw [hn] at h
      simp only [cond_false] at h
      have hn' : ¬ f.name = "_" := by intro e; rw [e] at hn; simp at hn
      split at h
      · rename_i a b' ha hb
        split at h
        · rename_i e he
          split at h
          · rename_i q hq
            simp only [Option.some.injEq] at h
            subst h
            have h1 := hrec _ _ _ _ he w
            have h2 := eqFs_ok hrec xs ys r q hq w
            simp only [Op.eqFields, hn', ne_eq, not_false_eq_true, if_true, Sem.run_bind, evalPure_run _ ha w, evalPure_run _ hb w, h1, Result.andThen_ok]
            cases e <;> simp [h2]
          · cases h
        · cases h
      · cases h
    · rw [hn] at h; cases h
theorem eqB_ok {P : Program} : ∀ (n : Nat) (t : TypeId) (x y : Value) (b : Bool), eqB P n t x y = some b → ∀ (D : Nat), n ≤ D → ∀ w, (Op.equalIn D t x y).run P w = .ok b w
  | 0, _, _, _, _, h, _, _, _ => by simp [eqB] at h
  | n + 1, t, x, y, b, h, D, hD, w => by
    obtain ⟨d, rfl⟩ : ∃ d, D = d + 1 := ⟨D - 1, by omega⟩
    unfold eqB at h
    split at h
    · rename_i a c hu
      simp only [Option.some.injEq] at h
      subst h
      exact run_equalIn_bool w d t a c hu
    · rename_i k' k a j c hu
      cases hk : decide (k = j)
      · rw [hk] at h; cases h
      · rw [hk] at h
        simp only [cond_true, Option.some.injEq] at h
        have := of_decide_eq_true hk
        subst this h
        exact run_equalIn_int w d t k k' a c hu
    · rename_i a c hu
      simp only [Option.some.injEq] at h
      subst h
      exact run_equalIn_string w d t a c hu
    · rename_i fs xs ys hu
      cases hs : P.stoodInHeld t
      · rw [hs] at h
        simp only [cond_false] at h
        have hf : P.fieldsOf t = fs := by simp [Program.fieldsOf, hu]
        rw [run_equalIn_struct w d t xs ys (by rw [hf]; exact hu) hs, hf]
        exact eqFs_ok (fun t x y b hb w => eqB_ok n t x y b hb d (by omega) w) xs ys fs.toList b h w
      · rw [hs] at h; cases h
    · cases h
theorem eqTop_ok {P : Program} {op : BinOp} {t : TypeId} {xs ys : Array Value} {r : Bool} (h : eqTop P op t (.agg xs) (.agg ys) = some r) (x y : Operand) (w : World) :
    (do eqGuard op t x y (.agg xs) (.agg ys); binOp op t (.agg xs) (.agg ys)).run P w = .ok (.bool r) w := by
  unfold eqTop at h
  cases hg : P.eqGuardType P.depth t
  · rw [hg] at h
    simp only [cond_false] at h
    split at h
    · have he := eqB_ok 20 t _ _ _ h Op.maxDepth (by decide) w
      simp [eqGuard, binOp, Op.equal, he, hg]
    · split at h
      · rename_i b hb
        simp only [Option.some.injEq] at h
        subst h
        have he := eqB_ok 20 t _ _ _ hb Op.maxDepth (by decide) w
        simp [eqGuard, binOp, Op.equal, he, hg]
      · cases h
    · cases h
  · rw [hg] at h; cases h
def Does (E : Env) (o : Oper) (a : Act) (C : World → Prop) (v : Value) (isCall : Bool) : Prop :=
  (isCall = false ∧ ∀ w, C w → (execOp a.eval o).run E.P w = .ok (.value v) w) ∨
    (isCall = true ∧ ∃ f args, E.call f args = some v ∧ ∀ w, (execOp a.eval o).run E.P w = .ok (.enter f args) w)
theorem generic_st {E : Env} {o : Oper} {s : St} {x : SV} {c : Bool} (h : generic E o s = some (x, c)) : ∃ fl v, x = .inl (fl, v) := by
  unfold generic at h
  cases hb : (notSel o.op && o.op.operands.toList.all (fun x => isV (ev s x)))
  · rw [hb] at h; cases h
  · rw [hb] at h
    simp only [cond_true] at h
    split at h
    · simp only [Option.some.injEq, Prod.mk.injEq] at h; exact ⟨_, _, h.1.symm⟩
    · split at h
      · simp only [Option.some.injEq, Prod.mk.injEq] at h; exact ⟨_, _, h.1.symm⟩
      · cases h
    · cases h
theorem generic_ok {E : Env} {o : Oper} {s : St} {x : SV} {c : Bool} {n : Nat} {loc : Nat → Nat} {a : Act} (C : World → Prop) (h : generic E o s = some (x, c)) (ht : TR n loc s a) : Does E o a C (conc loc x) c := by
  unfold generic at h
  cases hb : (notSel o.op && o.op.operands.toList.all (fun x => isV (ev s x)))
  · rw [hb] at h; cases h
  · rw [hb] at h
    simp only [cond_true] at h
    simp only [Bool.and_eq_true, List.all_eq_true] at hb
    have he : execOp a.eval o = execOp (rho s) o := execOp_congr o (fun cs b e => by rw [e] at hb; exact absurd hb.1 (by simp [notSel])) fun y hy => eval_rho ht (hb.2 y (by simpa using hy))
    cases hp : evalPure E.P (execOp (rho s) o) with
    | none => rw [hp] at h; cases h
    | some q =>
      have hrun := evalPure_run _ hp
      rw [hp] at h
      cases q <;> simp only [Option.some.injEq, Prod.mk.injEq, reduceCtorEq] at h
      case value v =>
        obtain ⟨rfl, rfl⟩ := h
        exact .inl ⟨rfl, fun w _ => by rw [he]; exact hrun w⟩
      case enter f args =>
        cases hcall : E.call f args with
        | none => rw [hcall] at h; cases h
        | some v =>
          rw [hcall] at h
          simp only [Option.some.injEq, Prod.mk.injEq] at h
          obtain ⟨rfl, rfl⟩ := h
          exact .inr ⟨rfl, f, args, hcall, fun w => by rw [he]; exact hrun w⟩
theorem simRO_st {E : Env} {o : Oper} {s : St} {x : SV} {c : Bool} (h : simRO E o s = some (x, c)) (hg : Good s) : okV s.own.length x := by
  have gen : ∀ {x : SV} {c : Bool}, generic E o s = some (x, c) → okV s.own.length x := fun h => by
    obtain ⟨_, _, rfl⟩ := generic_st h; trivial
  have ev1 : ∀ {y : Operand} {i off : Nat}, ev s y = .inr (i, off, none) → i < s.own.length := fun {y i off} hy => by
    have := ev_ok hg y; rw [hy] at this; exact this
  have ev2 : ∀ {y : Operand} {i off l k : Nat}, ev s y = .inr (i, off, some (l, k)) → i < s.own.length := fun {y i off l k} hy => by
    have := ev_ok hg y; rw [hy] at this; exact this
  unfold simRO at h
  repeat' (first | exact gen h | (cases h; done) | split at h)
  all_goals (simp only [Option.some.injEq, Prod.mk.injEq] at h; obtain ⟨rfl, _⟩ := h)
  all_goals first | trivial | exact ev_ok hg _ | exact ev1 ‹_› | exact ev2 ‹_› | skip
theorem simRO_ok {E : Env} {o : Oper} {s : St} {x : SV} {c : Bool} {n : Nat} {loc : Nat → Nat} {a : Act} (C : World → Prop) (h : simRO E o s = some (x, c)) (ht : TR n loc s a)
    (hC : ∀ w, C w → (∀ i b, s.own[i]? = some b → w.heap[loc i]? = some (.cells b.cells.toArray b.elem (0, 0))) ∧ Glob E w) : Does E o a C (conc loc x) c := by
  unfold simRO at h
  split at h
  · rename_i x' ho
    simp only [Option.some.injEq, Prod.mk.injEq] at h
    obtain ⟨rfl, rfl⟩ := h
    refine .inl ⟨rfl, fun w _ => ?_⟩
    rw [← eval_ev ht]; simp only [execOp, ho, Sem.run_pure]
  · rename_i x' ho
    simp only [Option.some.injEq, Prod.mk.injEq] at h
    obtain ⟨rfl, rfl⟩ := h
    refine .inl ⟨rfl, fun w _ => ?_⟩
    rw [← eval_ev ht]; simp only [execOp, ho, Sem.run_pure]
  · rename_i x' ho
    split at h
    · rename_i i off hx
      simp only [Option.some.injEq, Prod.mk.injEq] at h
      obtain ⟨rfl, rfl⟩ := h
      refine .inl ⟨rfl, fun w _ => ?_⟩
      have he := eval_own ht hx
      simp only [execOp, ho, he, Sem.run_pure]; rfl
    · exact generic_ok C h ht
    · cases h
  · rename_i t x' ho
    split at h
    · rename_i i off hx
      split at h
      · rename_i b hb
        split at h
        · rename_i v hv
          simp only [Option.some.injEq, Prod.mk.injEq] at h
          obtain ⟨rfl, rfl⟩ := h
          refine .inl ⟨rfl, fun w hw => ?_⟩
          have he := eval_own ht hx
          have hl := run_loadB (g := loc i) hv w (cells_of_blk ((hC w hw).1 i b hb))
          simp only [execOp, ho, he, Instr.loadAt, Instr.sureAddr, Sem.run_bind, Sem.run_pure, Result.andThen_ok, hl]; rfl
        · cases h
      · cases h
    · rename_i fl g off hx
      split at h
      · rename_i cs hg
        split at h
        · rename_i v hv
          simp only [Option.some.injEq, Prod.mk.injEq] at h
          obtain ⟨rfl, rfl⟩ := h
          refine .inl ⟨rfl, fun w hw => ?_⟩
          have he := eval_v ht hx
          have hl := run_loadB (g := g) hv w ((hC w hw).2 g cs hg).1
          simp only [execOp, ho, he, Instr.loadAt, Instr.sureAddr, Sem.run_bind, Sem.run_pure, Result.andThen_ok, hl]; rfl
        · cases h
      · cases h
    · cases h
  · rename_i t x' f ho
    split at h
    · rename_i i off hx
      split at h
      · rename_i off' hf
        simp only [Option.some.injEq, Prod.mk.injEq] at h
        obtain ⟨rfl, rfl⟩ := h
        refine .inl ⟨rfl, fun w hw => ?_⟩
        have he := eval_own ht hx
        have hl := run_fieldB (g := loc i) hf w
        simp only [execOp, ho, he, Sem.run_bind, hl, Result.andThen_ok, Sem.run_pure]; rfl
      · cases h
    · exact generic_ok C h ht
    · cases h
  · rename_i t x' ix ho
    split at h
    · rename_i i off fl k m hx hix
      split at h
      · rename_i len e hu
        split at h
        · rename_i off' hf
          simp only [Option.some.injEq, Prod.mk.injEq] at h
          obtain ⟨rfl, rfl⟩ := h
          refine .inl ⟨rfl, fun w hw => ?_⟩
          have he := eval_own ht hx
          have hei := eval_v ht hix
          have hl := (run_elemB (P := E.P) (t := t) (g := loc i) (k := k) hf w).1 hu
          simp only [execOp, ho, he, hei, Sem.run_bind, hl, Result.andThen_ok, Sem.run_pure]; rfl
        · cases h
      · cases h
    · rename_i i off len cap fl k m hx hix
      split at h
      · rename_i e hu
        split at h
        · rename_i off' hf
          simp only [Option.some.injEq, Prod.mk.injEq] at h
          obtain ⟨rfl, rfl⟩ := h
          refine .inl ⟨rfl, fun w hw => ?_⟩
          have he := eval_sl ht hx
          have hei := eval_v ht hix
          have hl := (run_elemB (P := E.P) (t := t) (g := loc i) (k := k) hf w).2 hu cap
          simp only [execOp, ho, he, hei, Sem.run_bind, hl, Result.andThen_ok, Sem.run_pure]; rfl
        · cases h
      · cases h
    · exact generic_ok C h ht
  · rename_i op t x' y' yt ho
    split at h
    · rename_i f k a' g j b' hx hy
      split at h
      · rename_i r hk hr
        simp only [Option.some.injEq, Prod.mk.injEq] at h
        obtain ⟨rfl, rfl⟩ := h
        have hk := of_decide_eq_true hk
        subst hk
        have he := eval_v ht hx
        have he' := eval_v ht hy
        refine .inl ⟨rfl, fun w _ => ?_⟩
        unfold cmpI at hr
        split at hr <;> first | (cases hr; done) | (simp only [Option.some.injEq] at hr; subst hr; simp [execOp, ho, he, he', binOp, eqGuard, Op.intCmp, conc])
      · exact generic_ok C h ht
    · rename_i f a' g b' hx hy
      split at h
      · rename_i r hr
        simp only [Option.some.injEq, Prod.mk.injEq] at h
        obtain ⟨rfl, rfl⟩ := h
        have he := eval_v ht hx
        have he' := eval_v ht hy
        refine .inl ⟨rfl, fun w _ => ?_⟩
        have hq := eqTop_ok hr x' y' w
        simp only [Sem.run_bind] at hq
        simp only [execOp, ho, he, he', Sem.run_bind, conc]
        rw [hq]; rfl
      · exact generic_ok C h ht
    · exact generic_ok C h ht
  · split at h
    · rename_i fl v c' hgen
      simp only [Option.some.injEq, Prod.mk.injEq] at h
      obtain ⟨rfl, rfl⟩ := h
      have hd := generic_ok C hgen ht
      exact hd
    · exact generic_ok C h ht
  · split at h
    · rename_i fl v c' hgen
      simp only [Option.some.injEq, Prod.mk.injEq] at h
      obtain ⟨rfl, rfl⟩ := h
      have hd := generic_ok C hgen ht
      exact hd
    · exact generic_ok C h ht
  · rename_i az ats ho
    split at h
    · rename_i x' t hl1 hl2
      split at h
      · rename_i i off len cap e hx hu
        simp only [Option.some.injEq, Prod.mk.injEq] at h
        obtain ⟨rfl, rfl⟩ := h
        refine .inl ⟨rfl, fun w hw => ?_⟩
        have he := eval_sl ht hx
        have e1 : az = #[x'] := by rw [← Array.toArray_toList (xs := az), hl1]
        have e2 : ats = #[t] := by rw [← Array.toArray_toList (xs := ats), hl2]
        subst e1 e2
        obtain ⟨dst, op, type, pos, after, guard⟩ := o
        simp only at ho
        subst ho
        unfold execOp
        simp [resolve, invoke, builtin, Builtin.len_, he, run_underlying hu, goInt, conc]
      · exact generic_ok C h ht
    · exact generic_ok C h ht
  · exact generic_ok C h ht
theorem putS_keep {n : Nat} {dst : Option Tmp} {x : SV} {s s' : St} (h : putS n dst x s = some s') : s'.obl = s.obl ∧ s'.own = s.own ∧ s'.mem = s.mem ∧ s'.lo = s.lo ∧ (∀ p ∈ s'.tmps, p ∈ s.tmps ∨ p.2 = x) := by
  unfold putS at h
  cases dst with
  | none => simp only [Option.some.injEq] at h; subst h; exact ⟨rfl, rfl, rfl, rfl, fun p hp => .inl hp⟩
  | some d =>
    simp only at h
    cases hb : Nat.blt d n
    · rw [hb] at h; cases h
    · rw [hb] at h; simp only [cond_true, Option.some.injEq] at h; subst h
      refine ⟨rfl, rfl, rfl, rfl, fun p hp => ?_⟩
      rcases List.mem_cons.mp hp with rfl | hp
      · exact .inr rfl
      · exact .inl hp
theorem putS_good {n : Nat} {dst : Option Tmp} {x : SV} {s s' : St} (h : putS n dst x s = some s') (hg : Good s) (hx : okV s.own.length x) : Good s' ∧ Le s s' := by
  obtain ⟨h1, h2, h3, h4, h5⟩ := putS_keep h
  refine ⟨⟨by rw [h2, h4]; exact hg.lo, fun p hp => ?_⟩, ⟨fun p hp => by rw [h1]; exact hp, by rw [h2]; exact Nat.le_refl _, h4, fun i _ => by rw [h2]⟩⟩
  rw [h2]
  rcases h5 p hp with h | h
  · exact hg.ok p h
  · rw [h]; exact hx
theorem tr_put {n : Nat} {loc : Nat → Nat} {s s' : St} {a : Act} {dst : Option Tmp} {x : SV} (h : putS n dst x s = some s') (ht : TR n loc s a) : TR n loc s' (a.put dst (conc loc x)) := by
  unfold putS at h
  cases dst with
  | none => simp only [Option.some.injEq] at h; subst h; exact ht
  | some d =>
    simp only at h
    cases hb : Nat.blt d n
    · rw [hb] at h; cases h
    · rw [hb] at h
      simp only [cond_true, Option.some.injEq] at h
      subst h
      have hd : d < n := by simpa [Nat.blt_eq] using hb
      refine ⟨?_, fun t => ?_, ht.df⟩
      · simp [Act.put, ht.size]
      · have h0 := ht.tm t
        have hsz := ht.size
        simp only [Act.put, look]
        simp only [Array.getD_eq_getD_getElem?, Array.getElem?_setIfInBounds] at h0 ⊢
        by_cases hdt : d = t
        · subst hdt
          simp [hsz, hd]
        · have : Nat.beq d t = false := by
            cases hbb : Nat.beq d t
            · rfl
            · exact absurd (Nat.eq_of_beq_eq_true hbb) hdt
          simp only [this, cond_false, hdt, if_false]
          exact h0
theorem TR.of {n : Nat} {loc : Nat → Nat} {s s' : St} {a : Act} (ht : TR n loc s a) (h : s'.tmps = s.tmps) : TR n loc s' a := ⟨ht.size, fun t => by rw [h]; exact ht.tm t, ht.df⟩
theorem TR.move {n : Nat} {loc loc' : Nat → Nat} {s s' : St} {a : Act} (ht : TR n loc s a) (hg : Good s) (ha : Agree s.own.length loc loc') (h : s'.tmps = s.tmps) : TR n loc' s' a :=
  ⟨ht.size, fun t => by rw [h, ht.tm t]; exact conc_congr (look_ok hg.ok) ha, ht.df⟩
theorem ask_ok (s : St) (fl : List Bool) (b : Bool) : (∀ p ∈ s.obl, p ∈ (ask s fl b).2.obl) ∧ (Holds' (ask s fl b).2 → (ask s fl b).1 = b) ∧ (ask s fl b).2.tmps = s.tmps ∧ (ask s fl b).2.own = s.own ∧ (ask s fl b).2.mem = s.mem ∧ (ask s fl b).2.lo = s.lo := by
  unfold ask
  cases anyF fl
  · exact ⟨fun _ h => h, fun _ => rfl, rfl, rfl, rfl, rfl⟩
  · simp only [cond_true]
    split
    · exact ⟨fun _ h => h, fun _ => rfl, rfl, rfl, rfl, rfl⟩
    · exact ⟨fun p hp => List.mem_cons_of_mem _ hp, fun h => (h _ (List.mem_cons_self)).symm, rfl, rfl, rfl, rfl⟩
theorem ask_le (s : St) (fl : List Bool) (b : Bool) : Le s (ask s fl b).2 := by
  obtain ⟨h1, _, h3, h4, h5, h6⟩ := ask_ok s fl b
  exact ⟨h1, by rw [h4]; exact Nat.le_refl _, h6, fun i _ => by rw [h4]⟩
theorem ask_good {s : St} (hg : Good s) (fl : List Bool) (b : Bool) : Good (ask s fl b).2 := by
  obtain ⟨h1, _, h3, h4, h5, h6⟩ := ask_ok s fl b
  exact ⟨by rw [h4, h6]; exact hg.lo, fun p hp => by rw [h4]; exact hg.ok p (by rw [← h3]; exact hp)⟩
theorem know_good {s : St} (hg : Good s) (d : Nat) (b : Bool) : Good (know s d b) :=
  ⟨hg.lo, fun p hp => by
    rcases List.mem_cons.mp hp with rfl | hp
    · trivial
    · exact hg.ok p hp⟩
theorem know_le (s : St) (d : Nat) (b : Bool) : Le s (know s d b) := ⟨fun _ h => h, Nat.le_refl _, rfl, fun _ _ => rfl⟩
theorem TR.ask {n : Nat} {loc : Nat → Nat} {s : St} {a : Act} (ht : TR n loc s a) (fl : List Bool) (b : Bool) : TR n loc (Sim.ask s fl b).2 a := ht.of (ask_ok s fl b).2.2.1
theorem TR.know {n : Nat} {loc : Nat → Nat} {s : St} {a : Act} (ht : TR n loc s a) {d : Nat} {b : Bool} (h : a.tmps.getD d undef = .bool b) : TR n loc (know s d b) a := by
  refine ⟨ht.size, fun t => ?_, ht.df⟩
  simp only [Sim.know, look]
  cases hb : Nat.beq d t
  · exact ht.tm t
  · have he : d = t := Nat.eq_of_beq_eq_true hb
    subst he
    exact h
theorem wantS_st {n : Nat} {ops : Array Oper} {o : Oper} {s s1 : St} {t : Bool} (h : wantS n ops o s = some (t, s1)) : Le s s1 ∧ s1.own = s.own ∧ s1.mem = s.mem ∧ (Good s → Good s1) := by
  unfold wantS at h
  split at h
  · simp only [Option.some.injEq, Prod.mk.injEq] at h
    obtain ⟨_, rfl⟩ := h
    exact ⟨Le.refl s, rfl, rfl, id⟩
  · split at h
    · rename_i d hd
      cases hb : Nat.blt d n
      · rw [hb] at h; cases h
      · rw [hb] at h
        simp only [cond_true] at h
        split at h
        · rename_i fl b hl
          simp only [Option.some.injEq, Prod.mk.injEq] at h
          obtain ⟨_, rfl⟩ := h
          obtain ⟨h1, _, h3, h4, h5, h6⟩ := ask_ok s fl b
          exact ⟨(ask_le s fl b).trans (know_le _ _ _), h4, h5, fun hg => know_good (ask_good hg fl b) _ _⟩
        · simp only [Option.some.injEq, Prod.mk.injEq] at h
          obtain ⟨_, rfl⟩ := h
          exact ⟨Le.refl s, rfl, rfl, id⟩
        · cases h
    · cases h
theorem wantS_ok {n : Nat} {ops : Array Oper} {o : Oper} {s s1 : St} {t : Bool} (h : wantS n ops o s = some (t, s1)) (hh : Holds' s1) {loc : Nat → Nat} {a : Act} (ht : TR n loc s a) :
    Region.wanted o (yielded ops a.tmps) = t ∧ TR n loc s1 a := by
  unfold wantS at h
  split at h
  · rename_i hg
    simp only [Option.some.injEq, Prod.mk.injEq] at h
    obtain ⟨rfl, rfl⟩ := h
    exact ⟨by simp [Region.wanted, hg], ht⟩
  · rename_i j want hg
    split at h
    · rename_i d hd
      cases hb : Nat.blt d n
      · rw [hb] at h; cases h
      · rw [hb] at h
        simp only [cond_true] at h
        have hdn : d < n := by simpa [Nat.blt_eq] using hb
        have hlt : d < a.tmps.size := by rw [ht.size]; exact hdn
        split at h
        · rename_i fl b hl
          simp only [Option.some.injEq, Prod.mk.injEq] at h
          obtain ⟨rfl, rfl⟩ := h
          obtain ⟨k1, k2, k3, k4, k5⟩ := ask_ok s fl b
          have h0 : a.tmps.getD d undef = .bool b := by have := ht.tm d; rw [hl] at this; exact this
          refine ⟨?_, (ht.ask fl b).know (by rw [h0, k2 hh])⟩
          have h1 : a.tmps[d]? = some (.bool b) := by
            rw [Array.getD_eq_getD_getElem?, Array.getElem?_eq_getElem hlt] at h0
            rw [Array.getElem?_eq_getElem hlt]
            simpa using h0
          have hy : yielded ops a.tmps j = some b := by simp [yielded, hd, h1]
          rw [k2 hh]
          simp [Region.wanted, hg, hy]
        · rename_i fl vs hl
          simp only [Option.some.injEq, Prod.mk.injEq] at h
          obtain ⟨rfl, rfl⟩ := h
          refine ⟨?_, ht⟩
          have h0 : a.tmps.getD d undef = .tuple vs := by have := ht.tm d; rw [hl] at this; exact this
          have h1 : a.tmps[d]? = some (.tuple vs) := by
            rw [Array.getD_eq_getD_getElem?, Array.getElem?_eq_getElem hlt] at h0
            rw [Array.getElem?_eq_getElem hlt]
            simpa using h0
          have hy : yielded ops a.tmps j = none := by simp [yielded, hd, h1]
          simp [Region.wanted, hg, hy]
        · cases h
    · cases h
theorem op_ro {E : Env} (HC : CallOk E) {n : Nat} {o : Oper} {s : St} {x : SV} {c : Bool} {w0 : World} (hG : Glob E w0) {loc : Nat → Nat} {a : Act} {w : World} {K : Act → World → Prop} {Q : Exit → Act → World → Prop}
    (h : simRO E o s = some (x, c)) (ht : TR n loc s a) (hw : WR w0 loc s.own s.mem w) (hK : ∀ w', WR w0 loc s.own (s.mem || c) w' → K (a.put o.dst (conc loc x)) w') : o.wp E.P a w K Q := by
  have hd := simRO_ok (fun w' => WR w0 loc s.own s.mem w') h ht (fun w' hw' => ⟨fun i b hi => (hw'.blk i b hi).1, hG.below hw'.below⟩)
  unfold Oper.wp
  rcases hd with ⟨rfl, hd⟩ | ⟨rfl, f, args, hf, hd⟩
  · rw [hd w hw, Oper.upon_value]
    exact hK w (by rw [Bool.or_false]; exact hw)
  · rw [hd w, Oper.upon_enter]
    refine (HC.1 f args _ hf w (hG.below hw.below)).mono fun e w' ⟨he, hb⟩ => ?_
    subst he
    exact hK w' (by rw [Bool.or_true]; exact hw.calls hb)
def ext (loc : Nat → Nat) (n b : Nat) : Nat → Nat := fun i => if i = n then b else loc i
theorem ext_old (loc : Nat → Nat) (n b : Nat) : Agree n loc (ext loc n b) := fun i h => by unfold ext; rw [if_neg (by omega)]
theorem ext_new (loc : Nat → Nat) (n b : Nat) : ext loc n b n = b := by unfold ext; rw [if_pos rfl]
theorem WR.grow {w0 : World} {loc : Nat → Nat} {own : List Blk} {mem : Bool} {w : World} (h : WR w0 loc own mem w) (cs : List Value) (t : TypeId) (fl : List Bool) :
    WR w0 (ext loc own.length w.heap.size) (own ++ [⟨cs, t, fl⟩]) true (w.alloc (.cells cs.toArray t)) := by
  have hsz := h.below.size
  refine ⟨h.below.alloc hsz _, fun i b hi => ?_, fun i j hi hj he => ?_, fun h => by cases h⟩
  · rcases Nat.lt_trichotomy i own.length with hl | hl | hl
    · rw [List.getElem?_append_left hl] at hi
      obtain ⟨h1, h2⟩ := h.blk i b hi
      rw [← ext_old loc _ _ i hl]
      exact ⟨by rw [Below.heap_alloc w _ (loc i) (lt_of_some h1)]; exact h1, h2⟩
    · subst hl
      simp at hi
      subst hi
      rw [ext_new]
      exact ⟨by rw [heap_alloc_new], hsz⟩
    · rw [List.getElem?_eq_none (by simp; omega)] at hi; cases hi
  · have key : ∀ i, i < own.length → loc i < w.heap.size := fun i hi => by
      obtain ⟨h1, _⟩ := h.blk i own[i] (by simp [hi])
      exact lt_of_some h1
    simp only [List.length_append, List.length_cons, List.length_nil] at hi hj
    unfold ext at he
    by_cases h1 : i = own.length <;> by_cases h2 : j = own.length
    · omega
    · rw [if_pos h1, if_neg h2] at he; have := key j (by omega); omega
    · rw [if_neg h1, if_pos h2] at he; have := key i (by omega); omega
    · rw [if_neg h1, if_neg h2] at he; exact h.inj i j (by omega) (by omega) he
theorem WR.store {w0 : World} {loc : Nat → Nat} {own : List Blk} {mem : Bool} {w w' : World} (h : WR w0 loc own mem w) {i : Nat} {b : Blk} (hi : own[i]? = some b) {cs : List Value}
    (h1 : w'.heap[loc i]? = some (.cells cs.toArray b.elem (0, 0))) (h2 : ∀ k, k ≠ loc i → w'.heap[k]? = w.heap[k]?) (h3 : w'.heap.size = w.heap.size) (h4 : w'.os = w.os) (h5 : w'.tape = w.tape) (h6 : w'.output = w.output) (fl : List Bool) :
    WR w0 loc (own.set i ⟨cs, b.elem, fl⟩) true w' := by
  have hil := lt_of_some_list hi
  obtain ⟨_, hge⟩ := h.blk i b hi
  refine ⟨h.below.trans ⟨h4, h5, h6, by omega, fun k hk => h2 k (by omega)⟩, fun j c hj => ?_, fun j k hj hk he => h.inj j k (by simpa using hj) (by simpa using hk) he, fun h => by cases h⟩
  by_cases hij : i = j
  · subst hij
    rw [List.getElem?_set_self hil] at hj
    simp only [Option.some.injEq] at hj
    subst hj
    exact ⟨h1, hge⟩
  · rw [List.getElem?_set_ne hij] at hj
    obtain ⟨k1, k2⟩ := h.blk j c hj
    have hjl := lt_of_some_list hj
    exact ⟨by rw [h2 _ (fun e => hij (h.inj j i hjl hil e).symm)]; exact k1, k2⟩
theorem simFX_st {E : Env} {o : Oper} {s : St} {x : SV} {own : List Blk} (h : simFX E o s = some (x, own)) (hg : Good s) : okV own.length x ∧ s.own.length ≤ own.length ∧ (∀ i, i < s.lo → own[i]? = s.own[i]?) := by
  have grow : ∀ (b : Blk), s.own.length ≤ (s.own ++ [b]).length ∧ (∀ i, i < s.lo → (s.own ++ [b])[i]? = s.own[i]?) := fun b =>
    ⟨by simp, fun i hi => List.getElem?_append_left (Nat.lt_of_lt_of_le hi hg.lo)⟩
  unfold simFX at h
  split at h
  · split at h
    · split at h
      · simp only [Option.some.injEq, Prod.mk.injEq] at h
        obtain ⟨rfl, rfl⟩ := h
        exact ⟨by show _ < _; simp, grow _⟩
      · cases h
    · cases h
  · split at h
    · simp only [Option.some.injEq, Prod.mk.injEq] at h
      obtain ⟨rfl, rfl⟩ := h
      exact ⟨by show _ < _; simp, grow _⟩
    · cases h
  · split at h
    · rename_i i off fl u hx hy
      cases hb : Nat.ble s.lo i
      · rw [hb] at h; cases h
      · rw [hb] at h
        simp only [cond_true] at h
        split at h
        · split at h
          · simp only [Option.some.injEq, Prod.mk.injEq] at h
            obtain ⟨rfl, rfl⟩ := h
            refine ⟨trivial, by simp, fun j hj => ?_⟩
            have : s.lo ≤ i := Nat.le_of_ble_eq_true hb
            rw [List.getElem?_set_ne (by omega)]
          · cases h
        · cases h
    · cases h
  · rename_i t len parts ho
    cases hb : parts.toList.all (fun p => isV (ev s p.2))
    · rw [hb] at h; cases h
    · rw [hb] at h
      simp only [cond_true] at h
      split at h
      · simp only [Option.some.injEq, Prod.mk.injEq] at h
        obtain ⟨rfl, rfl⟩ := h
        exact ⟨by show _ < _; simp, grow _⟩
      · cases h
  · cases h
theorem op_fx {E : Env} {n : Nat} {o : Oper} {s : St} {x : SV} {own : List Blk} {w0 : World} {loc : Nat → Nat} {a : Act} {w : World} {K : Act → World → Prop} {Q : Exit → Act → World → Prop}
    (h : simFX E o s = some (x, own)) (ht : TR n loc s a) (hw : WR w0 loc s.own s.mem w)
    (hK : ∀ loc' w', Agree s.own.length loc loc' → WR w0 loc' own true w' → K (a.put o.dst (conc loc' x)) w') : o.wp E.P a w K Q := by
  unfold simFX at h
  unfold Oper.wp
  split at h
  · rename_i t ho
    split at h
    · rename_i i hi
      split at h
      · rename_i z hz
        simp only [Option.some.injEq, Prod.mk.injEq] at h
        obtain ⟨rfl, rfl⟩ := h
        have hr : (execOp a.eval o).run E.P w = .ok (.value (.pointer (some ⟨w.heap.size, 0, none⟩))) (w.alloc (.cells z.cells t)) := by
          simp only [execOp, ho, Instr.alloc, zeroValue, typeInfo, Sem.run_bind, run_program, Result.andThen_ok, hi, Sem.run_pure, hz, newVar, newRow, run_newObj, World.alloc_eq]
        rw [hr, Oper.upon_value]
        have := hK (ext loc s.own.length w.heap.size) (w.alloc (.cells z.cells t)) (ext_old _ _ _) (hw.grow z.cells.toList t _)
        simpa [conc, ext_new] using this
      · cases h
    · cases h
  · rename_i t x' ho
    split at h
    · rename_i fl y hx
      simp only [Option.some.injEq, Prod.mk.injEq] at h
      obtain ⟨rfl, rfl⟩ := h
      have he := eval_v ht hx
      have hr : (execOp a.eval o).run E.P w = .ok (.value (.pointer (some ⟨w.heap.size, 0, none⟩))) (w.alloc (.cells y.cells t)) := by
        simp only [execOp, ho, he, Instr.box, Sem.run_bind, Result.andThen_ok, Sem.run_pure, newVar, newRow, run_newObj, World.alloc_eq]
      rw [hr, Oper.upon_value]
      have := hK (ext loc s.own.length w.heap.size) (w.alloc (.cells y.cells t)) (ext_old _ _ _) (hw.grow y.cells.toList t _)
      simpa [conc, ext_new] using this
    · cases h
  · rename_i t x' y' ho
    split at h
    · rename_i i off fl u hx hy
      cases hlo : Nat.ble s.lo i
      · rw [hlo] at h; cases h
      · rw [hlo] at h
        simp only [cond_true] at h
        split at h
        · rename_i b hb
          split at h
          · rename_i cs hcs
            simp only [Option.some.injEq, Prod.mk.injEq] at h
            obtain ⟨rfl, rfl⟩ := h
            have hex := eval_own ht hx
            have hey := eval_v ht hy
            obtain ⟨w', r1, r2, r3, r4, r5, r6, r7⟩ := run_storeB hcs w (hw.blk i b hb).1
            have hr : (execOp a.eval o).run E.P w = .ok .skip w' := by
              simp only [execOp, ho, hex, hey, Instr.storeAt, Instr.sureAddr, Sem.run_bind, Sem.run_pure, Result.andThen_ok, r1]
            rw [hr, Oper.upon_skip]
            exact hK loc w' (Agree.refl _ _) (hw.store hb r2 r3 r4 r5 r6 r7 _)
          · cases h
        · cases h
    · cases h
  · rename_i t len parts ho
    cases hb : parts.toList.all (fun p => isV (ev s p.2))
    · rw [hb] at h; cases h
    · rw [hb] at h
      simp only [cond_true] at h
      split at h
      · rename_i cells e hlit
        simp only [Option.some.injEq, Prod.mk.injEq] at h
        obtain ⟨rfl, rfl⟩ := h
        have hp : (parts.map fun (i, x) => (i, a.eval x)) = (parts.toList.map fun p => (p.1, rho s p.2)).toArray := by
          rw [← Array.toArray_toList (xs := parts.map _), Array.toList_map]
          congr 1
          refine List.map_congr_left fun p hp => ?_
          rw [List.all_eq_true] at hb
          show (p.1, a.eval p.2) = _
          rw [eval_rho ht (hb p hp)]
        have hr : (execOp a.eval o).run E.P w = .ok (.value (.slice (some ⟨w.heap.size, 0, none⟩) len len)) (w.alloc (.cells cells.toArray e)) := by
          simp only [execOp, ho, hp, Sem.run_bind, run_litB hlit w, Result.andThen_ok, Sem.run_pure]
        rw [hr, Oper.upon_value]
        have := hK (ext loc s.own.length w.heap.size) (w.alloc (.cells cells.toArray e)) (ext_old _ _ _) (hw.grow cells e _)
        simpa [conc, ext_new] using this
      · cases h
  · cases h
def ClSt (cl : Callee) : Prop := ∀ f args s x s', s.lo ≤ s.own.length → (∀ y ∈ args, okV s.own.length y) → cl f args s = some (x, s') → Le s s' ∧ okV s'.own.length x
def ClOk (E : Env) (w0 : World) (cl : Callee) : Prop := ∀ f args s x s', s.lo ≤ s.own.length → (∀ y ∈ args, okV s.own.length y) → cl f args s = some (x, s') → Holds' s' → ∀ loc w, WR w0 loc s.own s.mem w →
  (∃ fn, E.P.funcs[f]? = some fn ∧ (fn.name == "runtime.NumGoroutine") = false ∧ fn.body.isNone = false) ∧
    Calls E.P f (args.map (conc loc)).toArray w fun e w' => ∃ loc', Agree s.own.length loc loc' ∧ e = .returned (conc loc' x) ∧ WR w0 loc' s'.own s'.mem w'
theorem callArgs_ok {s : St} {o : Oper} {f : FuncId} {args : List SV} (h : callArgs s o = some (f, args)) : ∃ az ats, o.op = .call { callee := .value (.func f), args := az, argTypes := ats } ∧ args = az.toList.map (ev s) := by
  unfold callArgs at h
  split at h
  · rename_i f' az ats ho
    simp only [Option.some.injEq, Prod.mk.injEq] at h
    obtain ⟨rfl, rfl⟩ := h
    exact ⟨az, ats, ho, rfl⟩
  · cases h
theorem run_enter {P : Program} {o : Oper} {a : Act} {f : FuncId} {az : Array Operand} {ats : Array TypeId} (ho : o.op = .call { callee := .value (.func f), args := az, argTypes := ats })
    (hf : ∃ fn, P.funcs[f]? = some fn ∧ (fn.name == "runtime.NumGoroutine") = false ∧ fn.body.isNone = false) (w : World) : (execOp a.eval o).run P w = .ok (.enter f (az.map a.eval)) w := by
  obtain ⟨fn, h1, h2, h3⟩ := hf
  have e1 : execOp a.eval o = callFunc f (az.map a.eval) := by
    have ef : a.eval (.func f) = .func (.func f) #[] #[] := rfl
    unfold execOp
    simp [ho, resolve, Deferred.ofValue, invoke, ef]
  rw [e1]
  simp only [callFunc, Sem.run_bind, run_program, Result.andThen_ok, h1, h2, h3, Bool.false_eq_true, if_false, Sem.run_pure]
theorem map_conc {n : Nat} {loc : Nat → Nat} {s : St} {a : Act} (ht : TR n loc s a) (az : Array Operand) : az.map a.eval = ((az.toList.map (ev s)).map (conc loc)).toArray := by
  rw [← Array.toArray_toList (xs := az.map a.eval), Array.toList_map, List.map_map]
  congr 1
  exact List.map_congr_left fun x _ => eval_ev ht x
theorem Le.upd {s t : St} (h : Le s t) (s' : St) (h1 : s'.obl = t.obl) (h2 : s'.own = t.own) (h3 : s'.lo = s.lo) : Le s s' :=
  ⟨fun p hp => by rw [h1]; exact h.ext p hp, by rw [h2]; exact h.len, h3, fun i hi => by rw [h2]; exact h.keep i hi⟩
theorem simOps_st {E : Env} {cl : Callee} (hcl : ClSt cl) {n : Nat} {ops : Array Oper} {ro : Bool} : ∀ (l : List Oper) (s s' : St), Good s → simOps E cl n ops ro l s = some s' → Le s s' ∧ Good s' ∧ (ro = true → s'.own = s.own)
  | [], s, s', hg, h => by simp only [simOps, Option.some.injEq] at h; subst h; exact ⟨Le.refl s, hg, fun _ => rfl⟩
  | o :: rest, s, s', hg, h => by
    have go : ∀ (s1 s2 s3 : St) (x : SV), Le s s1 → Le s1 s2 → Good s2 → okV s2.own.length x → (ro = true → s2.own = s.own) → putS n o.dst x s2 = some s3 → simOps E cl n ops ro rest s3 = some s' → Le s s' ∧ Good s' ∧ (ro = true → s'.own = s.own) := fun s1 s2 s3 x k1 k2 k3 k4 k5 hp hr => by
      obtain ⟨g3, l3⟩ := putS_good hp k3 k4
      obtain ⟨r1, r2, r3⟩ := simOps_st hcl rest s3 s' g3 hr
      exact ⟨((k1.trans k2).trans l3).trans r1, r2, fun hro => by rw [r3 hro, (putS_keep hp).2.1, k5 hro]⟩
    unfold simOps at h
    split at h
    · cases h
    · rename_i s1 hw
      obtain ⟨k1, k2, k3, k4⟩ := wantS_st hw
      split at h
      · rename_i s2 hp
        exact go s1 s1 s2 (.inl ([], undef)) k1 (Le.refl _) (k4 hg) trivial (fun _ => k2) hp h
      · cases h
    · rename_i s1 hw
      obtain ⟨k1, k2, k3, k4⟩ := wantS_st hw
      have g1 := k4 hg
      split at h
      · rename_i x own hfx
        cases ro with
        | true => cases hfx
        | false =>
          simp only [cond_false] at hfx
          obtain ⟨f1, f2, f3⟩ := simFX_st hfx g1
          split at h
          · rename_i s2 hp
            refine go s1 { s1 with own := own, mem := true } s2 x k1 ⟨fun _ h => h, f2, rfl, f3⟩ ⟨Nat.le_trans g1.lo f2, fun p hp => (g1.ok p hp).mono f2⟩ f1 (fun h => by cases h) hp h
          · cases h
      · split at h
        · rename_i x c hro
          have hx := simRO_st hro g1
          split at h
          · rename_i s2 hp
            exact go s1 { s1 with mem := s1.mem || c } s2 x k1 ⟨fun _ h => h, Nat.le_refl _, rfl, fun _ _ => rfl⟩ ⟨g1.lo, g1.ok⟩ hx (fun _ => k2) hp h
          · cases h
        · split at h
          · cases h
          · rename_i f args hca
            have hargs : ∀ y ∈ args, okV s1.own.length y := fun y hy => by
              obtain ⟨az, ats, _, rfl⟩ := callArgs_ok hca
              obtain ⟨x, _, rfl⟩ := List.mem_map.mp hy
              exact ev_ok g1 x
            cases ro with
            | true =>
              simp only [cond_true] at h
              split at h
              · rename_i fl x s2 hc
                obtain ⟨c1, c2⟩ := hcl f args { s1 with lo := s1.own.length } _ s2 (Nat.le_refl _) hargs hc
                split at h
                · rename_i s3 hp
                  exact go s1 { s1 with mem := true, orc := s2.orc, obl := s2.obl } s3 (.inl (fl, x)) k1 ⟨c1.ext, Nat.le_refl _, rfl, fun _ _ => rfl⟩ ⟨g1.lo, g1.ok⟩ trivial (fun _ => k2) hp h
                · cases h
              · cases h
            | false =>
              simp only [cond_false] at h
              split at h
              · rename_i x s2 hc
                obtain ⟨c1, c2⟩ := hcl f args s1 _ s2 g1.lo hargs hc
                split at h
                · rename_i s3 hp
                  exact go s1 { s1 with own := s2.own, mem := s2.mem, orc := s2.orc, obl := s2.obl } s3 _ k1 (c1.upd _ rfl rfl rfl) ⟨Nat.le_trans g1.lo c1.len, fun p hp => (g1.ok p hp).mono c1.len⟩ c2 (fun h => by cases h) hp h
                · cases h
              · cases h
theorem simOps_wp {E : Env} (HC : CallOk E) {cl : Callee} (hst : ClSt cl) {w0 : World} (hok : ClOk E w0 cl) {n : Nat} {ops : Array Oper} (hG : Glob E w0) {Q : Exit → Act → World → Prop} :
    ∀ (l : List Oper) (s s' : St), simOps E cl n ops false l s = some s' → Good s → Holds' s' → ∀ loc a w, TR n loc s a → WR w0 loc s.own s.mem w →
      (∀ loc' a' w', Agree s.own.length loc loc' → TR n loc' s' a' → WR w0 loc' s'.own s'.mem w' → Q .normal a' w') → wpList E.P ops Q l a w
  | [], s, s', h, _, _, loc, a, w, ht, hw, hQ => by
    simp only [simOps, Option.some.injEq] at h; subst h
    exact wpList_nil (hQ loc a w (Agree.refl _ _) ht hw)
  | o :: rest, s, s', h, hg, hh, loc, a, w, ht, hw, hQ => by
    unfold simOps at h
    refine wpList_step fun K hK => ?_
    split at h
    · cases h
    · rename_i s1 hwant
      obtain ⟨k1, k2, k3, k4⟩ := wantS_st hwant
      have g1 := k4 hg
      split at h
      · rename_i s2 hp
        obtain ⟨p1, p2, p3, p4, _⟩ := putS_keep hp
        obtain ⟨g2, l2⟩ := putS_good hp g1 trivial
        have hh1 : Holds' s1 := (l2.trans (simOps_st hst rest s2 s' g2 h).1).holds hh
        obtain ⟨hwn, ht1⟩ := wantS_ok hwant hh1 ht
        rw [if_neg (by rw [hwn]; simp)]
        exact hK _ _ (simOps_wp HC hst hok hG rest s2 s' h g2 hh loc _ w (tr_put hp ht1) (by rw [p2, p3, k2, k3]; exact hw) (fun loc' a' w' ha => hQ loc' a' w' (fun i hi => ha i (by rw [p2, k2]; exact hi))))
      · cases h
    · rename_i s1 hwant
      obtain ⟨k1, k2, k3, k4⟩ := wantS_st hwant
      have g1 := k4 hg
      have hw1 : WR w0 loc s1.own s1.mem w := by rw [k2, k3]; exact hw
      split at h
      · rename_i x own hfx
        simp only [cond_false] at hfx
        obtain ⟨f1, f2, f3⟩ := simFX_st hfx g1
        split at h
        · rename_i s2 hp
          obtain ⟨p1, p2, p3, p4, _⟩ := putS_keep hp
          have gm : Good { s1 with own := own, mem := true } := ⟨Nat.le_trans g1.lo f2, fun p hp => (g1.ok p hp).mono f2⟩
          obtain ⟨g2, l2⟩ := putS_good hp gm f1
          have hh1 : Holds' s1 := fun p hp' => ((l2.trans (simOps_st hst rest s2 s' g2 h).1).holds hh) p hp'
          obtain ⟨hwn, ht1⟩ := wantS_ok hwant hh1 ht
          rw [if_pos hwn]
          refine op_fx hfx ht1 hw1 fun loc' w' ha hw' => ?_
          exact hK _ _ (simOps_wp HC hst hok hG rest s2 s' h g2 hh loc' _ w' (tr_put hp (ht1.move g1 ha rfl)) (by rw [p2, p3]; exact hw')
            (fun loc'' a' w'' ha' => hQ loc'' a' w'' (fun i hi => (ha i (by rw [k2]; exact hi)).trans (ha' i (by rw [p2]; exact Nat.lt_of_lt_of_le (by rw [k2]; exact hi) f2)))))
        · cases h
      · split at h
        · rename_i x c hro
          split at h
          · rename_i s2 hp
            obtain ⟨p1, p2, p3, p4, _⟩ := putS_keep hp
            have gm : Good { s1 with mem := s1.mem || c } := ⟨g1.lo, g1.ok⟩
            have hx := simRO_st hro g1
            obtain ⟨g2, l2⟩ := putS_good hp gm hx
            have hh1 : Holds' s1 := fun p hp' => ((l2.trans (simOps_st hst rest s2 s' g2 h).1).holds hh) p hp'
            obtain ⟨hwn, ht1⟩ := wantS_ok hwant hh1 ht
            rw [if_pos hwn]
            refine op_ro HC hG hro ht1 hw1 fun w' hw' => ?_
            exact hK _ _ (simOps_wp HC hst hok hG rest s2 s' h g2 hh loc _ w' (tr_put hp (ht1.of rfl)) (by rw [p2, p3]; exact hw')
              (fun loc'' a' w'' ha' => hQ loc'' a' w'' (fun i hi => ha' i (by rw [p2]; show i < s1.own.length; rw [k2]; exact hi))))
          · cases h
        · split at h
          · cases h
          · rename_i f args hca
            obtain ⟨az, ats, hop, hargs⟩ := callArgs_ok hca
            have hok1 : ∀ y ∈ args, okV s1.own.length y := fun y hy => by
              rw [hargs] at hy
              obtain ⟨x, _, rfl⟩ := List.mem_map.mp hy
              exact ev_ok g1 x
            simp only [cond_false] at h
            split at h
            · rename_i x s2 hc
              obtain ⟨c1, c2⟩ := hst f args s1 _ s2 g1.lo hok1 hc
              split at h
              · rename_i s3 hp
                obtain ⟨p1, p2, p3, p4, _⟩ := putS_keep hp
                have gm : Good { s1 with own := s2.own, mem := s2.mem, orc := s2.orc, obl := s2.obl } := ⟨Nat.le_trans g1.lo c1.len, fun p hp => (g1.ok p hp).mono c1.len⟩
                obtain ⟨g3, l3⟩ := putS_good hp gm c2
                have hh2 : Holds' s2 := fun p hp' => ((l3.trans (simOps_st hst rest s3 s' g3 h).1).holds hh) p hp'
                have hh1 : Holds' s1 := c1.holds hh2
                obtain ⟨hwn, ht1⟩ := wantS_ok hwant hh1 ht
                rw [if_pos hwn]
                obtain ⟨hf, hcalls⟩ := hok f args s1 x s2 g1.lo hok1 hc hh2 loc w hw1
                unfold Oper.wp
                rw [run_enter hop hf w, Oper.upon_enter, map_conc ht1, ← hargs]
                refine hcalls.mono fun e w' ⟨loc', ha, he, hw'⟩ => ?_
                subst he
                exact hK _ _ (simOps_wp HC hst hok hG rest s3 s' h g3 hh loc' _ w' (tr_put hp (ht1.move g1 ha rfl)) (by rw [p2, p3]; exact hw')
                  (fun loc'' a' w'' ha' => hQ loc'' a' w'' (fun i hi => (ha i (by rw [k2]; exact hi)).trans (ha' i (by rw [p2]; exact Nat.lt_of_lt_of_le (by rw [k2]; exact hi) c1.len)))))
              · cases h
            · cases h
theorem simOps_quiet {E : Env} (HC : CallOk E) {cl : Callee} (hst : ClSt cl) {w0 : World} (hok : ClOk E w0 cl) {n : Nat} {ops : Array Oper} (hG : Glob E w0) {loc : Nat → Nat} {own : List Blk} {Q : Act → Prop} :
    ∀ (l : List Oper) (s s' : St), simOps E cl n ops true l s = some s' → Good s → Holds' s' → s.own = own → s.mem = true → ∀ a, TR n loc s a →
      (s'.mem = true → ∀ a', TR n loc s' a' → Q a') → wpQuiet E.P ops (fun w => WR w0 loc own true w) Q l a
  | [], s, s', h, _, _, h1, h2, a, ht, hQ => by
    simp only [simOps, Option.some.injEq] at h; subst h
    exact wpQuiet_nil (hQ h2 a ht)
  | o :: rest, s, s', h, hg, hh, h1, h2, a, ht, hQ => by
    unfold simOps at h
    refine wpQuiet_step fun K hK => ?_
    split at h
    · cases h
    · rename_i s1 hwant
      obtain ⟨k1, k2, k3, k4⟩ := wantS_st hwant
      have g1 := k4 hg
      split at h
      · rename_i s2 hp
        obtain ⟨p1, p2, p3, p4, _⟩ := putS_keep hp
        obtain ⟨g2, l2⟩ := putS_good hp g1 trivial
        have hh1 : Holds' s1 := (l2.trans (simOps_st hst rest s2 s' g2 h).1).holds hh
        obtain ⟨hwn, ht1⟩ := wantS_ok hwant hh1 ht
        rw [if_neg (by rw [hwn]; simp)]
        exact hK _ (simOps_quiet HC hst hok hG rest s2 s' h g2 hh (by rw [p2, k2, h1]) (by rw [p3, k3, h2]) _ (tr_put hp ht1) hQ)
      · cases h
    · rename_i s1 hwant
      obtain ⟨k1, k2, k3, k4⟩ := wantS_st hwant
      have g1 := k4 hg
      have e1 : s1.own = own := k2.trans h1
      split at h
      · rename_i x own' hfx
        cases hfx
      · split at h
        · rename_i x c hro
          split at h
          · rename_i s2 hp
            obtain ⟨p1, p2, p3, p4, _⟩ := putS_keep hp
            have gm : Good { s1 with mem := s1.mem || c } := ⟨g1.lo, g1.ok⟩
            have hx := simRO_st hro g1
            obtain ⟨g2, l2⟩ := putS_good hp gm hx
            have hh1 : Holds' s1 := fun p hp' => ((l2.trans (simOps_st hst rest s2 s' g2 h).1).holds hh) p hp'
            obtain ⟨hwn, ht1⟩ := wantS_ok hwant hh1 ht
            rw [if_pos hwn]
            have hdo := simRO_ok (fun w => WR w0 loc own true w) hro ht1 (fun w' hw' => ⟨fun i b hi => (hw'.blk i b (by rw [← e1]; exact hi)).1, hG.below hw'.below⟩)
            refine ⟨conc loc x, fun w hw => ?_, hK _ (simOps_quiet HC hst hok hG rest s2 s' h g2 hh (by rw [p2]; exact e1) (by rw [p3]; show (s1.mem || c) = true; rw [k3, h2]; rfl) _ (tr_put hp (ht1.of rfl)) hQ)⟩
            unfold Oper.quietAt
            rcases hdo with ⟨rfl, hd⟩ | ⟨rfl, f, args, hf, hd⟩
            · rw [hd w hw]; exact ⟨rfl, rfl⟩
            · rw [hd w]
              exact ⟨rfl, (HC.1 f args _ hf w (hG.below hw.below)).mono fun e w' ⟨he, hb⟩ => ⟨he, hw.calls hb⟩⟩
          · cases h
        · split at h
          · cases h
          · rename_i f args hca
            obtain ⟨az, ats, hop, hargs⟩ := callArgs_ok hca
            have hok1 : ∀ y ∈ args, okV s1.own.length y := fun y hy => by
              rw [hargs] at hy
              obtain ⟨x, _, rfl⟩ := List.mem_map.mp hy
              exact ev_ok g1 x
            simp only [cond_true] at h
            split at h
            · rename_i fl x s2 hc
              obtain ⟨c1, c2⟩ := hst f args { s1 with lo := s1.own.length } _ s2 (Nat.le_refl _) hok1 hc
              split at h
              · rename_i s3 hp
                obtain ⟨p1, p2, p3, p4, _⟩ := putS_keep hp
                have gm : Good { s1 with mem := true, orc := s2.orc, obl := s2.obl } := ⟨g1.lo, g1.ok⟩
                obtain ⟨g3, l3⟩ := putS_good hp gm trivial
                have hh2 : Holds' s2 := fun p hp' => ((l3.trans (simOps_st hst rest s3 s' g3 h).1).holds hh) p hp'
                have hh1 : Holds' s1 := fun p hp' => hh2 p (c1.ext p hp')
                obtain ⟨hwn, ht1⟩ := wantS_ok hwant hh1 ht
                rw [if_pos hwn]
                refine ⟨x, fun w hw => ?_, hK _ (simOps_quiet HC hst hok hG rest s3 s' h g3 hh (by rw [p2]; exact e1) (by rw [p3]) _ (tr_put hp (ht1.of rfl)) hQ)⟩
                obtain ⟨hf, hcalls⟩ := hok f args { s1 with lo := s1.own.length } _ s2 (Nat.le_refl _) hok1 hc hh2 loc w (by show WR w0 loc s1.own s1.mem w; rw [e1, k3, h2]; exact hw)
                unfold Oper.quietAt
                rw [run_enter hop hf w, map_conc ht1, ← hargs]
                refine ⟨rfl, hcalls.mono fun e w' ⟨loc', ha, he, hw'⟩ => ⟨he, ?_⟩⟩
                have := hw'.restrict (own := s1.own) ha c1.len (fun i hi => c1.keep i hi)
                rw [e1] at this
                exact this
              · cases h
            · cases h
theorem WR.drew {w0 : World} {loc : Nat → Nat} {own : List Blk} {mem : Bool} {w : World} (h : WR w0 loc own mem w) : WR w0 loc own true { w with drawn := w.drawn + 1 } :=
  ⟨h.below.drew, h.blk, h.inj, fun h => by cases h⟩
def Piece (P : Program) (fuel : Nat) (Q : Exit → Act → World → Prop) (a : Act) (w : World) : Code → Prop
  | .loop c => Code.rounds P c Q fuel a w
  | c => c.wp P Q a w
theorem Piece.wp {P : Program} {fuel : Nat} {Q : Exit → Act → World → Prop} {a : Act} {w : World} {c : Code} (h : Piece P fuel Q a w c) : c.wp P Q a w := by
  cases c <;> first | exact h | exact wp_loop_rounds fuel h
theorem askC_ok {n : Nat} {s s1 : St} {c : Operand} {fl : List Bool} {b t : Bool} (hev : ev s c = .inl (fl, (.bool b))) (h : askC s c fl b = (t, s1)) :
    Le s s1 ∧ s1.own = s.own ∧ s1.mem = s.mem ∧ (Good s → Good s1) ∧ (Holds' s1 → b = t ∧ ∀ loc a, TR n loc s a → TR n loc s1 a) := by
  obtain ⟨a1, a2, a3, a4, a5, a6⟩ := ask_ok s fl b
  unfold askC at h
  split at h
  · rename_i d
    simp only [Prod.mk.injEq] at h
    obtain ⟨rfl, rfl⟩ := h
    refine ⟨(ask_le s fl b).trans (know_le _ _ _), a4, a5, fun hg => know_good (ask_good hg fl b) _ _, fun hh => ⟨(a2 hh).symm, fun loc a ht => (ht.ask fl b).know ?_⟩⟩
    rw [a2 hh]
    exact eval_v ht hev
  · have e1 : (ask s fl b).2 = s1 := by rw [h]
    have e2 : (ask s fl b).1 = t := by rw [h]
    rw [← e1, ← e2]
    exact ⟨ask_le s fl b, a4, a5, fun hg => ask_good hg fl b, fun hh => ⟨(a2 hh).symm, fun loc a ht => ht.ask fl b⟩⟩
def RunSt (ih : Runner) : Prop := ∀ n c s x s', Good s → ih n c s = some (x, s') → Le s s' ∧ Good s'
def RunOk (E : Env) (w0 : World) (k : Nat) (ih : Runner) : Prop := ∀ n c s x s', Good s → ih n c s = some (x, s') → Holds' s' → ∀ Q loc a w, TR n loc s a → WR w0 loc s.own s.mem w →
  (∀ loc' a' w', Agree s.own.length loc loc' → TR n loc' s' a' → WR w0 loc' s'.own s'.mem w' → Q x.toExit a' w') → Piece E.P k Q a w c
theorem resV_st {P : Program} {s : St} {r : ResultVar} {x : SV} (h : resV P s r = some x) (hg : Good s) : okV s.own.length x := by
  unfold resV at h
  split at h
  · simp only [Option.some.injEq] at h; subst h; exact look_ok hg.ok
  · split at h
    · split at h
      · split at h
        · simp only [Option.some.injEq] at h; subst h; trivial
        · cases h
      · cases h
    · cases h
theorem simRes_st {P : Program} {fn : Func} {s : St} {x : SV} (h : simRes P fn s = some x) (hg : Good s) : okV s.own.length x := by
  unfold simRes at h
  split at h
  · simp only [Option.some.injEq] at h; subst h; trivial
  · exact resV_st h hg
  · unfold resTup at h; split at h
    · simp only [Option.some.injEq] at h; subst h; trivial
    · cases h
  · unfold resTup3 at h; split at h
    · simp only [Option.some.injEq] at h; subst h; trivial
    · cases h
  · cases h
theorem initS_mem : ∀ (l : List SV) (k : Nat), ∀ p ∈ initS k l, p.2 ∈ l
  | [], _, p, hp => by cases hp
  | x :: r, k, p, hp => by
    rcases List.mem_cons.mp hp with rfl | hp
    · exact List.mem_cons_self
    · exact List.mem_cons_of_mem _ (initS_mem r _ p hp)
theorem enterO_st {E : Env} {ih : Runner} (hih : RunSt ih) : ClSt (enterO E ih) := fun f args s x s' hlo hargs h => by
  unfold enterO at h
  split at h
  · rename_i fn hf
    cases hb : (fn.name == "runtime.NumGoroutine")
    · rw [hb] at h
      simp only [cond_false] at h
      split at h
      · rename_i c hbody
        have hg : Good { s with tmps := initS 0 args } := ⟨hlo, fun p hp => hargs _ (initS_mem _ _ p hp)⟩
        split at h
        · rename_i s1 hr
          obtain ⟨l1, g1⟩ := hih _ _ _ _ _ hg hr
          split at h
          · rename_i u hu
            simp only [Option.some.injEq, Prod.mk.injEq] at h
            obtain ⟨rfl, rfl⟩ := h
            exact ⟨⟨l1.ext, l1.len, l1.lo, l1.keep⟩, simRes_st hu g1⟩
          · cases h
        · rename_i s1 hr
          obtain ⟨l1, g1⟩ := hih _ _ _ _ _ hg hr
          split at h
          · rename_i u hu
            simp only [Option.some.injEq, Prod.mk.injEq] at h
            obtain ⟨rfl, rfl⟩ := h
            exact ⟨⟨l1.ext, l1.len, l1.lo, l1.keep⟩, simRes_st hu g1⟩
          · cases h
        · cases h
      · cases h
    · rw [hb] at h; cases h
  · cases h
theorem argsV_conc (loc : Nat → Nat) : ∀ {l : List SV} {vs : List Value}, argsV l = some vs → l.map (conc loc) = vs
  | [], vs, h => by simp only [argsV, Option.some.injEq] at h; subst h; rfl
  | .inl (_, v) :: r, vs, h => by
    unfold argsV at h
    split at h
    · rename_i l hl
      simp only [Option.some.injEq] at h
      subst h
      show v :: r.map (conc loc) = _
      rw [argsV_conc loc hl]
    · cases h
  | .inr _ :: _, vs, h => by simp [argsV] at h
theorem pcallS_some {E : Env} {f : FuncId} {args : List SV} {s s' : St} {x : SV} (h : pcallS E f args s = some (x, s')) :
    ∃ l v b fn fl, argsV args = some l ∧ E.pcall f l = some (v, b) ∧ E.P.funcs[f]? = some fn ∧ (fn.name == "runtime.NumGoroutine") = false ∧ fn.body.isNone = false ∧ x = .inl (fl, v) ∧ s' = { s with mem := true, obl := (b, true) :: s.obl } := by
  unfold pcallS at h
  split at h
  · rename_i l hl
    split at h
    · rename_i v b hb
      split at h
      · rename_i fn hf
        cases hn : (fn.name == "runtime.NumGoroutine" || fn.body.isNone)
        · rw [hn] at h
          simp only [cond_false, Option.some.injEq, Prod.mk.injEq] at h
          simp only [Bool.or_eq_false_iff] at hn
          exact ⟨l, v, b, fn, _, hl, hb, hf, hn.1, hn.2, h.1.symm, h.2.symm⟩
        · rw [hn] at h; cases h
      · cases h
    · cases h
  · cases h
theorem enterS_st {E : Env} {ih : Runner} (hih : RunSt ih) : ClSt (enterS E ih) := fun f args s x s' hlo hargs h => by
  unfold enterS at h
  split at h
  · rename_i r hr
    obtain ⟨l, v, b, fn, fl, _, _, _, _, _, rfl, rfl⟩ := pcallS_some (hr.trans h)
    exact ⟨⟨fun p hp => List.mem_cons_of_mem _ hp, Nat.le_refl _, rfl, fun _ _ => rfl⟩, trivial⟩
  · exact enterO_st hih f args s x s' hlo hargs h
def resM (tmps : Array Value) : ResultVar → Sem Value
  | .tmp t => pure (tmps.getD t undef)
  | .cell p t => do loadVar t (← asAddr (tmps.getD p undef))
theorem results_resM (fn : Func) (tmps : Array Value) : results fn tmps = (do let vs ← fn.results.mapM (resM tmps); pure (if h : vs.size = 1 then vs[0] else .tuple vs)) := rfl
theorem resV_ok {E : Env} {n : Nat} {w0 w : World} {loc : Nat → Nat} {s : St} {a : Act} {r : ResultVar} {x : SV} (h : resV E.P s r = some x) (ht : TR n loc s a) (hw : WR w0 loc s.own s.mem w) :
    (resM a.tmps r).run E.P w = .ok (conc loc x) w := by
  unfold resV at h
  split at h
  · rename_i t
    simp only [Option.some.injEq] at h
    subst h
    have h0 := ht.tm t
    simp only [resM, h0, Sem.run_pure]
  · rename_i p t
    have h0 := ht.tm p
    split at h
    · rename_i i off hl
      split at h
      · rename_i b hb
        split at h
        · rename_i v hv
          simp only [Option.some.injEq] at h
          subst h
          rw [hl] at h0
          have := run_loadB hv w (cells_of_blk (hw.blk i b hb).1)
          simp only [resM, h0, conc, asAddr, Sem.run_bind, Sem.run_pure, Result.andThen_ok, this]
        · cases h
      · cases h
    · cases h
theorem simRes_ok {E : Env} {n : Nat} {w0 w : World} {loc : Nat → Nat} {s : St} {a : Act} {fn : Func} {x : SV} (h : simRes E.P fn s = some x) (ht : TR n loc s a) (hw : WR w0 loc s.own s.mem w) :
    (results fn a.tmps).run E.P w = .ok (conc loc x) w := by
  unfold simRes at h
  split at h
  · rename_i hr
    have hl : fn.results = #[] := by rw [← Array.toArray_toList (xs := fn.results), hr]
    simp only [Option.some.injEq] at h
    subst h
    rw [results_none hl]; rfl
  · rename_i r hr
    have hl : fn.results = #[r] := by rw [← Array.toArray_toList (xs := fn.results), hr]
    have h1 := resV_ok h ht hw
    rw [results_resM, hl]
    simp only [List.mapM_toArray, List.mapM_cons, List.mapM_nil, Sem.run_bind, Sem.run_map, h1, Result.andThen_ok, Sem.run_pure]
    rfl
  · rename_i r1 r2 hr
    have hl : fn.results = #[r1, r2] := by rw [← Array.toArray_toList (xs := fn.results), hr]
    unfold resTup at h
    split at h
    · rename_i f1 x1 f2 x2 h1 h2
      simp only [Option.some.injEq] at h
      subst h
      have h1 := resV_ok h1 ht hw
      have h2 := resV_ok h2 ht hw
      rw [results_resM, hl]
      simp only [List.mapM_toArray, List.mapM_cons, List.mapM_nil, Sem.run_bind, Sem.run_map, h1, h2, Result.andThen_ok, Sem.run_pure]
      rfl
    · cases h
  · rename_i r1 r2 r3 hr
    have hl : fn.results = #[r1, r2, r3] := by rw [← Array.toArray_toList (xs := fn.results), hr]
    unfold resTup3 at h
    split at h
    · rename_i f1 x1 f2 x2 f3 x3 h1 h2 h3
      simp only [Option.some.injEq] at h
      subst h
      have h1 := resV_ok h1 ht hw
      have h2 := resV_ok h2 ht hw
      have h3 := resV_ok h3 ht hw
      rw [results_resM, hl]
      simp only [List.mapM_toArray, List.mapM_cons, List.mapM_nil, Sem.run_bind, Sem.run_map, h1, h2, h3, Result.andThen_ok, Sem.run_pure]
      rfl
    · cases h
  · cases h
theorem look_initS (loc : Nat → Nat) : ∀ (l : List SV) (k t : Nat), conc loc (look (initS k l) t) = (if k ≤ t then ((l.map (conc loc))[t - k]?).getD undef else undef)
  | [], k, t => by simp [initS, look, conc]
  | x :: r, k, t => by
    have ih := look_initS loc r (k + 1) t
    unfold initS look
    cases hb : Nat.beq k t
    · have hne : k ≠ t := fun e => by rw [e] at hb; simp at hb
      simp only [cond_false]
      rw [ih]
      by_cases h : k ≤ t
      · rw [if_pos h, if_pos (by omega), show t - k = (t - (k + 1)) + 1 by omega]; rfl
      · rw [if_neg h, if_neg (by omega)]
    · have he : k = t := Nat.eq_of_beq_eq_true hb
      subst he
      simp
theorem tr_init (args : List SV) (m : Nat) (loc : Nat → Nat) (s : St) :
    TR (args.length + (m - args.length)) loc { s with tmps := initS 0 args } { tmps := (args.map (conc loc)).toArray ++ Array.replicate (m - (args.map (conc loc)).toArray.size) undef, defers := [] } := by
  refine ⟨by simp, fun t => ?_, rfl⟩
  show _ = conc loc (look (initS 0 args) t)
  rw [look_initS]
  simp only [Nat.zero_le, if_true, Nat.sub_zero, Array.getD_eq_getD_getElem?, Array.getElem?_append, List.size_toArray, List.length_map, List.getElem?_toArray]
  by_cases h : t < args.length
  · rw [if_pos h]
  · have e : (args.map (conc loc))[t]? = none := List.getElem?_eq_none (by simp; omega)
    rw [if_neg h, e, Array.getElem?_replicate]
    split <;> rfl
theorem enterO_ok {E : Env} {w0 : World} {k : Nat} {ih : Runner} (hst : RunSt ih) (hok : RunOk E w0 k ih) : ClOk E w0 (enterO E ih) := fun f args s x s' hlo hargs h hh loc w hw => by
  unfold enterO at h
  split at h
  · rename_i fn hf
    cases hb : (fn.name == "runtime.NumGoroutine")
    · rw [hb] at h
      simp only [cond_false] at h
      split at h
      · rename_i c hbody
        have hg : Good { s with tmps := initS 0 args } := ⟨hlo, fun p hp => hargs _ (initS_mem _ _ p hp)⟩
        refine ⟨⟨fn, hf, hb, by rw [hbody]; rfl⟩, calls_of_wp hf hbody ?_⟩
        split at h
        · rename_i s1 hr
          split at h
          · rename_i u hu
            simp only [Option.some.injEq, Prod.mk.injEq] at h
            obtain ⟨rfl, rfl⟩ := h
            exact (hok _ _ _ _ _ hg hr hh _ loc _ w (tr_init args fn.ntmps loc s) hw fun loc' a' w' ha ht' hw' => bodyPost_end (simRes_ok hu ht' hw') ht'.df ⟨loc', ha, rfl, hw'⟩).wp
          · cases h
        · rename_i s1 hr
          split at h
          · rename_i u hu
            simp only [Option.some.injEq, Prod.mk.injEq] at h
            obtain ⟨rfl, rfl⟩ := h
            exact (hok _ _ _ _ _ hg hr hh _ loc _ w (tr_init args fn.ntmps loc s) hw fun loc' a' w' ha ht' hw' => bodyPost_ret (simRes_ok hu ht' hw') ht'.df ⟨loc', ha, rfl, hw'⟩).wp
          · cases h
        · cases h
      · cases h
    · rw [hb] at h; cases h
  · cases h
theorem enterS_ok {E : Env} (HC : CallOk E) {w0 : World} (hG : Glob E w0) {k : Nat} {ih : Runner} (hst : RunSt ih) (hok : RunOk E w0 k ih) : ClOk E w0 (enterS E ih) := fun f args s x s' hlo hargs h hh loc w hw => by
  unfold enterS at h
  split at h
  · rename_i r hr
    obtain ⟨l, v, b, fn, fl, hl, hb, hf, hn, hbody, rfl, rfl⟩ := pcallS_some (hr.trans h)
    have e : b = true := hh (b, true) List.mem_cons_self
    subst e
    refine ⟨⟨fn, hf, hn, hbody⟩, ?_⟩
    rw [argsV_conc loc hl]
    exact (HC.2 f l v hb w (hG.below hw.below)).mono fun e w' ⟨he, hb⟩ => ⟨loc, Agree.refl _ _, he, hw.calls hb⟩
  · exact enterO_ok hst hok f args s x s' hlo hargs h hh loc w hw
theorem simC_zero (E : Env) : simC E 0 = fun _ _ _ => none := rfl
theorem simC_succ (E : Env) (k n : Nat) (c : Code) (s : St) : simC E (k + 1) n c s = stepC E (simC E k) n c s := rfl
theorem simC_st (E : Env) : ∀ (fuel : Nat), RunSt (simC E fuel)
  | 0 => fun n c s x s' _ h => by rw [simC_zero] at h; cases h
  | k + 1 => fun n c s x s' hg h => by
    have ih := simC_st E k
    have hcl := enterS_st (E := E) ih
    rw [simC_succ] at h
    unfold stepC at h
    split at h
    · simp only [Option.some.injEq, Prod.mk.injEq] at h
      obtain ⟨_, rfl⟩ := h; exact ⟨Le.refl _, hg⟩
    · simp only [Option.some.injEq, Prod.mk.injEq] at h
      obtain ⟨_, rfl⟩ := h; exact ⟨Le.refl _, hg⟩
    · split at h
      · rename_i s1 hs
        simp only [Option.some.injEq, Prod.mk.injEq] at h
        obtain ⟨_, rfl⟩ := h
        obtain ⟨a, b, _⟩ := simOps_st hcl _ _ _ hg hs
        exact ⟨a, b⟩
      · cases h
    · rename_i id ops
      cases hb : (E.P.follows .mixedOrders && Region.lexB .any ops)
      · rw [hb] at h; cases h
      · rw [hb] at h
        simp only [cond_true] at h
        split at h
        · rename_i s1 hs
          simp only [Option.some.injEq, Prod.mk.injEq] at h
          obtain ⟨_, rfl⟩ := h
          obtain ⟨a, b, _⟩ := simOps_st hcl _ { s with mem := true } _ ⟨hg.lo, hg.ok⟩ hs
          exact ⟨⟨a.ext, a.len, a.lo, a.keep⟩, b⟩
        · cases h
    · split at h
      · rename_i s1 h1
        obtain ⟨l1, g1⟩ := ih _ _ _ _ _ hg h1
        obtain ⟨l2, g2⟩ := ih _ _ _ _ _ g1 h
        exact ⟨l1.trans l2, g2⟩
      · exact ih _ _ _ _ _ hg h
    · rename_i c c1 c2
      split at h
      · rename_i fl b hev
        split at h
        · rename_i s1 hask
          obtain ⟨b1, _, _, b4, _⟩ := askC_ok (n := n) hev hask
          obtain ⟨l1, g1⟩ := ih _ _ _ _ _ (b4 hg) h
          exact ⟨b1.trans l1, g1⟩
        · rename_i s1 hask
          obtain ⟨b1, _, _, b4, _⟩ := askC_ok (n := n) hev hask
          obtain ⟨l1, g1⟩ := ih _ _ _ _ _ (b4 hg) h
          exact ⟨b1.trans l1, g1⟩
      · cases h
    · split at h
      · rename_i i s1 h1
        obtain ⟨l1, g1⟩ := ih _ _ _ _ _ hg h1
        revert h
        cases Nat.beq i _ <;> intro h <;> simp only [cond_true, cond_false, Option.some.injEq, Prod.mk.injEq] at h <;> (obtain ⟨_, rfl⟩ := h; exact ⟨l1, g1⟩)
      · exact ih _ _ _ _ _ hg h
    · split at h
      · rename_i s1 h1
        obtain ⟨l1, g1⟩ := ih _ _ _ _ _ hg h1
        obtain ⟨l2, g2⟩ := ih _ _ _ _ _ g1 h
        exact ⟨l1.trans l2, g2⟩
      · exact ih _ _ _ _ _ hg h
    · simp only [Option.some.injEq, Prod.mk.injEq] at h
      obtain ⟨_, rfl⟩ := h; exact ⟨Le.refl _, hg⟩
    · simp only [Option.some.injEq, Prod.mk.injEq] at h
      obtain ⟨_, rfl⟩ := h; exact ⟨Le.refl _, hg⟩
    · cases h
theorem simC_ok {E : Env} (HC : CallOk E) {w0 : World} (hG : Glob E w0) : ∀ (fuel : Nat), RunOk E w0 fuel (simC E fuel)
  | 0 => fun n c s x s' _ h => by rw [simC_zero] at h; cases h
  | k + 1 => fun n c s x s' hg h hh Q loc a w ht hw hQ => by
    have st := simC_st E k
    have ih := simC_ok HC hG k
    have hst := enterS_st (E := E) st
    have hok := enterS_ok (E := E) HC hG st ih
    rw [simC_succ] at h
    unfold stepC at h
    split at h
    · simp only [Option.some.injEq, Prod.mk.injEq] at h
      obtain ⟨rfl, rfl⟩ := h
      exact wp_skip (hQ _ _ _ (Agree.refl _ _) ht hw)
    · simp only [Option.some.injEq, Prod.mk.injEq] at h
      obtain ⟨rfl, rfl⟩ := h
      exact wp_label (hQ _ _ _ (Agree.refl _ _) ht hw)
    · rename_i id ops
      split at h
      · rename_i s1 hs
        simp only [Option.some.injEq, Prod.mk.injEq] at h
        obtain ⟨rfl, rfl⟩ := h
        exact wp_region_list (simOps_wp HC hst hok hG _ _ _ hs hg hh loc a w ht hw hQ)
      · cases h
    · rename_i id ops
      cases hb : (E.P.follows .mixedOrders && Region.lexB .any ops)
      · rw [hb] at h; cases h
      · rw [hb] at h
        simp only [cond_true] at h
        simp only [Bool.and_eq_true] at hb
        split at h
        · rename_i s1 hs
          simp only [Option.some.injEq, Prod.mk.injEq] at h
          obtain ⟨rfl, rfl⟩ := h
          have hown := (simOps_st hst _ { s with mem := true } _ ⟨hg.lo, hg.ok⟩ hs).2.2 rfl
          refine wp_region_quiet (C := fun w => WR w0 loc s.own true w) hb.1 hb.2 hw.drew ?_
          exact simOps_quiet HC hst hok hG _ _ _ hs ⟨hg.lo, hg.ok⟩ hh rfl rfl a (ht.of rfl) fun e2 a' ht' w' hw' => hQ loc a' w' (Agree.refl _ _) ht' (by rw [hown, e2]; exact hw')
        · cases h
    · rename_i c1 c2
      split at h
      · rename_i s1 h1
        obtain ⟨l1, g1⟩ := st _ _ _ _ _ hg h1
        obtain ⟨l2, g2⟩ := st _ _ _ _ _ g1 h
        exact wp_seq (ih _ _ _ _ _ hg h1 (l2.holds hh) _ loc a w ht hw fun loc' a' w' ha ht' hw' =>
          (ih _ _ _ _ _ g1 h hh Q loc' a' w' ht' hw' fun loc'' a'' w'' ha' => hQ loc'' a'' w'' (ha.trans ha' l1.len)).wp).wp
      · rename_i hne
        refine wp_seq (ih _ _ _ _ _ hg h hh _ loc a w ht hw fun loc' a' w' ha ht' hw' => ?_).wp
        rcases x with _ | _ | i
        · exact absurd h (hne _)
        · exact hQ _ _ _ ha ht' hw'
        · exact hQ _ _ _ ha ht' hw'
    · rename_i c c1 c2
      split at h
      · rename_i fl b hev
        split at h
        · rename_i s1 hask
          obtain ⟨b1, b2, b3, b4, b5⟩ := askC_ok (n := n) hev hask
          have g1 := b4 hg
          obtain ⟨l1, _⟩ := st _ _ _ _ _ g1 h
          obtain ⟨hb, ht1⟩ := b5 (l1.holds hh)
          exact wp_cond_true (by rw [eval_v ht hev, hb]) (ih _ _ _ _ _ g1 h hh Q loc a w (ht1 loc a ht) (by rw [b2, b3]; exact hw) fun loc' a' w' ha => hQ loc' a' w' (by rw [← b2]; exact ha)).wp
        · rename_i s1 hask
          obtain ⟨b1, b2, b3, b4, b5⟩ := askC_ok (n := n) hev hask
          have g1 := b4 hg
          obtain ⟨l1, _⟩ := st _ _ _ _ _ g1 h
          obtain ⟨hb, ht1⟩ := b5 (l1.holds hh)
          exact wp_cond_false (by rw [eval_v ht hev, hb]) (ih _ _ _ _ _ g1 h hh Q loc a w (ht1 loc a ht) (by rw [b2, b3]; exact hw) fun loc' a' w' ha => hQ loc' a' w' (by rw [← b2]; exact ha)).wp
      · cases h
    · rename_i id c1
      split at h
      · rename_i i s1 h1
        cases hb : Nat.beq i id
        · rw [hb] at h
          simp only [cond_false, Option.some.injEq, Prod.mk.injEq] at h
          obtain ⟨rfl, rfl⟩ := h
          have hne : i ≠ id := fun e => by rw [e] at hb; simp at hb
          refine wp_block (ih _ _ _ _ _ hg h1 hh _ loc a w ht hw fun loc' a' w' ha ht' hw' => ?_).wp
          simp only [X.toExit, Exit.inBlock, if_neg hne]
          exact hQ _ _ _ ha ht' hw'
        · rw [hb] at h
          simp only [cond_true, Option.some.injEq, Prod.mk.injEq] at h
          obtain ⟨rfl, rfl⟩ := h
          have heq : i = id := Nat.eq_of_beq_eq_true hb
          refine wp_block (ih _ _ _ _ _ hg h1 hh _ loc a w ht hw fun loc' a' w' ha ht' hw' => ?_).wp
          simp only [X.toExit, Exit.inBlock, if_pos heq]
          exact hQ _ _ _ ha ht' hw'
      · rename_i hne
        refine wp_block (ih _ _ _ _ _ hg h hh _ loc a w ht hw fun loc' a' w' ha ht' hw' => ?_).wp
        rcases x with _ | _ | i
        · exact hQ _ _ _ ha ht' hw'
        · exact hQ _ _ _ ha ht' hw'
        · exact absurd h (hne _ _)
    · rename_i c1
      split at h
      · rename_i s1 h1
        obtain ⟨l1, g1⟩ := st _ _ _ _ _ hg h1
        obtain ⟨l2, g2⟩ := st _ _ _ _ _ g1 h
        show Code.rounds _ _ _ (k + 1) _ _
        rw [rounds_succ]
        exact (ih _ _ _ _ _ hg h1 (l2.holds hh) _ loc a w ht hw fun loc' a' w' ha ht' hw' => ih _ _ _ _ _ g1 h hh Q loc' a' w' ht' hw' fun loc'' a'' w'' ha' => hQ loc'' a'' w'' (ha.trans ha' l1.len)).wp
      · rename_i hne
        show Code.rounds _ _ _ (k + 1) _ _
        rw [rounds_succ]
        refine (ih _ _ _ _ _ hg h hh _ loc a w ht hw fun loc' a' w' ha ht' hw' => ?_).wp
        rcases x with _ | _ | i
        · exact absurd h (hne _)
        · exact hQ _ _ _ ha ht' hw'
        · exact hQ _ _ _ ha ht' hw'
    · simp only [Option.some.injEq, Prod.mk.injEq] at h
      obtain ⟨rfl, rfl⟩ := h
      exact wp_exit (hQ _ _ _ (Agree.refl _ _) ht hw)
    · simp only [Option.some.injEq, Prod.mk.injEq] at h
      obtain ⟨rfl, rfl⟩ := h
      exact wp_ret (hQ _ _ _ (Agree.refl _ _) ht hw)
    · cases h
theorem initA_v (fl : List (List Bool)) (loc : Nat → Nat) : ∀ (l : List Value) (k : Nat), (initA fl k l).map (conc loc) = l ∧ ∀ y ∈ initA fl k l, okV 0 y
  | [], _ => ⟨rfl, fun y hy => by cases hy⟩
  | v :: r, k => by
    obtain ⟨h1, h2⟩ := initA_v fl loc r (k + 1)
    refine ⟨?_, fun y hy => ?_⟩
    · show v :: (initA fl (k + 1) r).map (conc loc) = _
      rw [h1]
    · rcases List.mem_cons.mp hy with rfl | hy
      · trivial
      · exact h2 y hy
theorem simEnd_ok {E : Env} (HC : CallOk E) {fuel : Nat} {fls : List (List Bool)} {orc : List Bool} {f : FuncId} {args : List Value} {x : SV} {s : St}
    (h : simEnd E fuel fls orc f args = some (x, s)) (hl : Holds' s) (w : World) (hG : Glob E w) :
    Calls E.P f args.toArray w fun e w' => ∃ loc, e = .returned (conc loc x) ∧ okV s.own.length x ∧ WR w loc s.own s.mem w' := by
  obtain ⟨h1, h2⟩ := initA_v fls (fun _ => 0) args 0
  have hwr : WR w (fun _ => 0) [] false w := ⟨Below.refl _ _, fun i b hi => by simp at hi, fun i j hi => by simp at hi, fun _ => rfl⟩
  have hst := enterS_st (E := E) (simC_st E fuel)
  have hok := enterS_ok (E := E) HC hG (simC_st E fuel) (simC_ok HC hG fuel)
  unfold simEnd at h
  obtain ⟨_, hx⟩ := hst _ _ { tmps := [], own := [], lo := 0, mem := false, orc := orc, obl := [] } _ _ (Nat.le_refl _) h2 h
  obtain ⟨_, hc⟩ := hok _ _ { tmps := [], own := [], lo := 0, mem := false, orc := orc, obl := [] } _ _ (Nat.le_refl _) h2 h hl (fun _ => 0) w hwr
  rw [h1] at hc
  exact hc.mono fun e w' ⟨loc, _, he, hw⟩ => ⟨loc, he, hx, hw⟩
theorem simCall_all {E : Env} (HC : CallOk E) {fuel : Nat} {fls : List (List Bool)} {orc : List Bool} {f : FuncId} {args : List Value} {v : Value} {l : List (Bool × Bool)} {mem : Bool}
    (h : simCall E fuel fls orc f args = some (v, l, mem)) (hl : ∀ p ∈ l, p.1 = p.2) (w : World) (hG : Glob E w) :
    Calls E.P f args.toArray w fun e w' => e = .returned v ∧ Below w.heap.size w w' ∧ (mem = false → w' = w) := by
  unfold simCall at h
  split at h
  · rename_i fl x s hs
    simp only [Option.some.injEq, Prod.mk.injEq] at h
    obtain ⟨rfl, rfl, rfl⟩ := h
    exact (simEnd_ok HC hs hl w hG).mono fun e w' ⟨loc, he, _, hw⟩ => ⟨he, hw.below, hw.same⟩
  · cases h
theorem simCall_below {E : Env} (HC : CallOk E) {fuel : Nat} {fls : List (List Bool)} {orc : List Bool} {f : FuncId} {args : List Value} {v : Value} {l : List (Bool × Bool)} {mem : Bool}
    (h : simCall E fuel fls orc f args = some (v, l, mem)) (hl : ∀ p ∈ l, p.1 = p.2) (w : World) (hG : Glob E w) :
    Calls E.P f args.toArray w fun e w' => e = .returned v ∧ Below w.heap.size w w' := (simCall_all HC h hl w hG).mono fun _ _ ⟨h1, h2, _⟩ => ⟨h1, h2⟩
end Go.Proofs.YtiajbijbhhpllaaDoor.Sim
namespace Go.Proofs.YtiajbijbhhpllaaDoor.Sim
open Go Go.RowKit
abbrev Tab := FuncId → Array Value → Option Value
def row {α : Type} (k : FuncId) (dec : List Value → Option α) (g : α → Value) : Tab := fun f args =>
  bif Nat.beq f k then (match dec args.toList with
    | some a => some (g a)
    | none => none) else none
def orT (c1 c2 : Tab) : Tab := fun f args => match c1 f args with
  | some v => some v
  | none => c2 f args
def noT : Tab := fun _ _ => none
def TabOk (P : Program) (gl : Nat → Option (List Value)) (c : Tab) : Prop := ∀ f args v, c f args = some v → ∀ w, Glob { P := P, glob := gl, call := c } w → Calls P f args w fun e w' => e = .returned v ∧ Below w.heap.size w w'
abbrev GlobOk (gl : Nat → Option (List Value)) (w : World) : Prop := GlobW gl w
theorem GlobOk.none (w : World) : GlobOk (fun _ => none) w := fun _ _ h => by cases h
theorem GlobOk.below {gl : Nat → Option (List Value)} {w w' : World} (h : GlobOk gl w) (hb : Below w.heap.size w w') : GlobOk gl w' := GlobW.below h hb
theorem callOk_of {P : Program} {gl : Nat → Option (List Value)} {c : Tab} (h : TabOk P gl c) : CallOk { P := P, glob := gl, call := c } := ⟨h, fun _ _ _ h => by cases h⟩
theorem TabOk.none (P : Program) (gl : Nat → Option (List Value)) : TabOk P gl noT := fun _ _ _ h => by cases h
theorem TabOk.row {P : Program} {gl : Nat → Option (List Value)} {α : Type} {k : FuncId} {dec : List Value → Option α} {g : α → Value}
    (h : ∀ args a, dec args.toList = some a → ∀ w, GlobOk gl w → Calls P k args w fun e w' => e = .returned (g a) ∧ Below w.heap.size w w') : TabOk P gl (row k dec g) := fun f args v hv w hG => by
  unfold Sim.row at hv
  cases hb : Nat.beq f k
  · rw [hb] at hv; cases hv
  · rw [hb] at hv
    have he : f = k := Nat.eq_of_beq_eq_true hb
    subst he
    simp only [cond_true] at hv
    cases hd : dec args.toList with
    | none => rw [hd] at hv; cases hv
    | some a =>
      rw [hd] at hv
      simp only [Option.some.injEq] at hv
      subst hv
      exact h args a hd w hG
theorem TabOk.or {P : Program} {gl : Nat → Option (List Value)} {c1 c2 : Tab} (h1 : TabOk P gl c1) (h2 : TabOk P gl c2) : TabOk P gl (orT c1 c2) := fun f args v hv w hG => by
  unfold orT at hv
  split at hv
  · rename_i u hu
    simp only [Option.some.injEq] at hv
    subst hv
    exact h1 f args _ hu w hG
  · exact h2 f args v hv w hG
def decI : List Value → Option Int
  | [.int .i64 x] => some x
  | _ => none
def decII : List Value → Option (Int × Int)
  | [.int .i64 x, .int .i64 y] => some (x, y)
  | _ => none
def decIII : List Value → Option (Int × Int × Int)
  | [.int .i64 x, .int .i64 y, .int .i64 z] => some (x, y, z)
  | _ => none
def decIB : List Value → Option (Int × Bool)
  | [.int .i64 x, .bool y] => some (x, y)
  | _ => none
def dec0 : List Value → Option Unit
  | [] => some ()
  | _ => none
theorem decI_eq {l : List Value} {x : Int} (h : decI l = some x) : l = [.int .i64 x] := by unfold decI at h; split at h <;> simp_all
theorem decII_eq {l : List Value} {x : Int × Int} (h : decII l = some x) : l = [.int .i64 x.1, .int .i64 x.2] := by unfold decII at h; split at h <;> simp at h; subst h; rfl
theorem decIII_eq {l : List Value} {x : Int × Int × Int} (h : decIII l = some x) : l = [.int .i64 x.1, .int .i64 x.2.1, .int .i64 x.2.2] := by unfold decIII at h; split at h <;> simp at h; subst h; rfl
theorem decIB_eq {l : List Value} {x : Int × Bool} (h : decIB l = some x) : l = [.int .i64 x.1, .bool x.2] := by unfold decIB at h; split at h <;> simp at h; subst h; rfl
theorem dec0_eq {l : List Value} {x : Unit} (h : dec0 l = some x) : l = [] := by unfold dec0 at h; split at h <;> simp_all
theorem args_eq {args : Array Value} {l : List Value} (h : args.toList = l) : args = l.toArray := by rw [← h]
def Ret (P : Program) (k : FuncId) (args : Array Value) (v : Value) (w : World) : Prop := Calls P k args w fun e w' => e = .returned v ∧ Below w.heap.size w w'
theorem tabI {P : Program} {gl : Nat → Option (List Value)} {k : FuncId} {g : Int → Value} (h : ∀ x w, GlobOk gl w → Ret P k #[.int .i64 x] (g x) w) : TabOk P gl (row k decI g) := .row fun args a hd w hG => by rw [args_eq (decI_eq hd)]; exact h a w hG
theorem tabII {P : Program} {gl : Nat → Option (List Value)} {k : FuncId} {g : Int × Int → Value} (h : ∀ x y w, GlobOk gl w → Ret P k #[.int .i64 x, .int .i64 y] (g (x, y)) w) : TabOk P gl (row k decII g) := .row fun args a hd w hG => by rw [args_eq (decII_eq hd)]; exact h a.1 a.2 w hG
theorem tabIII {P : Program} {gl : Nat → Option (List Value)} {k : FuncId} {g : Int × Int × Int → Value} (h : ∀ x y z w, GlobOk gl w → Ret P k #[.int .i64 x, .int .i64 y, .int .i64 z] (g (x, y, z)) w) : TabOk P gl (row k decIII g) := .row fun args a hd w hG => by rw [args_eq (decIII_eq hd)]; exact h a.1 a.2.1 a.2.2 w hG
theorem tabIB {P : Program} {gl : Nat → Option (List Value)} {k : FuncId} {g : Int × Bool → Value} (h : ∀ x y w, GlobOk gl w → Ret P k #[.int .i64 x, .bool y] (g (x, y)) w) : TabOk P gl (row k decIB g) := .row fun args a hd w hG => by rw [args_eq (decIB_eq hd)]; exact h a.1 a.2 w hG
theorem tab0 {P : Program} {gl : Nat → Option (List Value)} {k : FuncId} {g : Unit → Value} (h : ∀ w, GlobOk gl w → Ret P k #[] (g ()) w) : TabOk P gl (row k dec0 g) := .row fun args a hd w hG => by rw [args_eq (dec0_eq hd)]; exact h w hG
theorem tabV {P : Program} {gl : Nat → Option (List Value)} {α : Type} {k : FuncId} {dec : List Value → Option α} {enc : α → Value} {g : α → Value} (hd : ∀ l a, dec l = some a → l = [enc a]) (h : ∀ a w, GlobOk gl w → Ret P k #[enc a] (g a) w) : TabOk P gl (row k dec g) :=
  .row fun args a he w hG => by rw [args_eq (hd _ _ he)]; exact h a w hG
theorem Ret.of_eq {P : Program} {k : FuncId} {args : Array Value} {v v' : Value} {w : World} (h : Ret P k args v w) (e : v = v') : Ret P k args v' w := e ▸ h
theorem Ret.of_same {P : Program} {k : FuncId} {args : Array Value} {v : Value} {w : World} (h : Calls P k args w fun e w' => e = .returned v ∧ w = w') : Ret P k args v w := h.mono fun _ _ ⟨he, hw⟩ => ⟨he, hw ▸ Below.refl _ _⟩
abbrev PTab := FuncId → List Value → Option (Value × Bool)
def pre (b : Bool) : Bool := b
def prow {α : Type} (k : FuncId) (dec : List Value → Option α) (g : α → Value) (c : α → Bool) : PTab := fun f args =>
  bif Nat.beq f k then (match dec args with
    | some a => some (g a, pre (c a))
    | none => none) else none
def orP (c1 c2 : PTab) : PTab := fun f args => match c1 f args with
  | some v => some v
  | none => c2 f args
def noP : PTab := fun _ _ => none
def PTabOk (P : Program) (gl : Nat → Option (List Value)) (c : PTab) : Prop := ∀ f args v, c f args = some (v, true) → ∀ w, GlobOk gl w → Ret P f args.toArray v w
theorem PTabOk.none (P : Program) (gl : Nat → Option (List Value)) : PTabOk P gl noP := fun _ _ _ h => by cases h
theorem PTabOk.row {P : Program} {gl : Nat → Option (List Value)} {α : Type} {k : FuncId} {dec : List Value → Option α} {enc : α → List Value} {g : α → Value} {c : α → Bool} (hd : ∀ l a, dec l = some a → l = enc a)
    (h : ∀ a, c a = true → ∀ w, GlobOk gl w → Ret P k (enc a).toArray (g a) w) : PTabOk P gl (prow k dec g c) := fun f args v hv w hG => by
  unfold prow at hv
  cases hb : Nat.beq f k
  · rw [hb] at hv; cases hv
  · rw [hb] at hv
    have he : f = k := Nat.eq_of_beq_eq_true hb
    subst he
    simp only [cond_true] at hv
    split at hv
    · rename_i a ha
      simp only [Option.some.injEq, Prod.mk.injEq] at hv
      obtain ⟨rfl, hc⟩ := hv
      rw [hd _ _ ha]
      exact h a hc w hG
    · cases hv
def prowD (k : FuncId) (dec : List Value → Option (Value × Bool)) : PTab := fun f args => bif Nat.beq f k then dec args else none
theorem PTabOk.rowD {P : Program} {gl : Nat → Option (List Value)} {k : FuncId} {dec : List Value → Option (Value × Bool)} (h : ∀ args v, dec args = some (v, true) → ∀ w, GlobOk gl w → Ret P k args.toArray v w) : PTabOk P gl (prowD k dec) := fun f args v hv w hG => by
  unfold prowD at hv
  cases hb : Nat.beq f k
  · rw [hb] at hv; cases hv
  · rw [hb] at hv
    have he : f = k := Nat.eq_of_beq_eq_true hb
    subst he
    exact h args v hv w hG
theorem PTabOk.or {P : Program} {gl : Nat → Option (List Value)} {c1 c2 : PTab} (h1 : PTabOk P gl c1) (h2 : PTabOk P gl c2) : PTabOk P gl (orP c1 c2) := fun f args v hv w hG => by
  unfold orP at hv
  split at hv
  · rename_i u hu
    simp only [Option.some.injEq] at hv
    subst hv
    exact h1 f args _ hu w hG
  · exact h2 f args v hv w hG
def eqS : Value → Value → Bool
  | .bool a, .bool b => a == b
  | .int k a, .int j b => decide (k = j) && decide (a = b)
  | .string a, .string b => a.data.toList == b.data.toList
  | _, _ => false
def eqL (eq : Value → Value → Bool) : List Value → List Value → Bool
  | [], [] => true
  | x :: r, y :: t => eq x y && eqL eq r t
  | _, _ => false
def eqW (eq : Value → Value → Bool) : Value → Value → Bool
  | .agg a, .agg b => eqL eq a.toList b.toList
  | .tuple a, .tuple b => eqL eq a.toList b.toList
  | x, y => eqS x y
def eqV : Value → Value → Bool := eqW (eqW (eqW eqS))
theorem bytes_eq {a b : ByteArray} (h : a.data.toList = b.data.toList) : a = b := by
  cases a; cases b; simp at h; simp [h]
theorem arr_eq {a b : Array Value} (h : a.toList = b.toList) : a = b := by
  cases a; cases b; simp at h; simp [h]
theorem eqS_eq {x y : Value} (h : eqS x y = true) : x = y := by
  unfold eqS at h
  split at h
  · exact congrArg Value.bool (eq_of_beq h)
  · simp only [Bool.and_eq_true, decide_eq_true_eq] at h
    rw [h.1, h.2]
  · exact congrArg Value.string (bytes_eq (eq_of_beq h))
  · cases h
theorem eqL_eq {eq : Value → Value → Bool} (he : ∀ x y, eq x y = true → x = y) : ∀ (x y : List Value), eqL eq x y = true → x = y
  | [], [], _ => rfl
  | x :: r, y :: t, h => by
    simp only [eqL, Bool.and_eq_true] at h
    rw [he _ _ h.1, eqL_eq he _ _ h.2]
  | [], _ :: _, h => by simp [eqL] at h
  | _ :: _, [], h => by simp [eqL] at h
theorem eqW_eq {eq : Value → Value → Bool} (he : ∀ x y, eq x y = true → x = y) (x y : Value) (h : eqW eq x y = true) : x = y := by
  unfold eqW at h
  split at h
  · exact congrArg Value.agg (arr_eq (eqL_eq he _ _ h))
  · exact congrArg Value.tuple (arr_eq (eqL_eq he _ _ h))
  · exact eqS_eq h
theorem eqV_eq (x y : Value) (h : eqV x y = true) : x = y := eqW_eq (eqW_eq (eqW_eq fun _ _ => eqS_eq)) x y h
end Go.Proofs.YtiajbijbhhpllaaDoor.Sim
namespace Go.Proofs.YtiajbijbhhpllaaDoor.Sim
open Go Go.RowKit
def simVal (E : Env) (fuel : Nat) (fl : List (List Bool)) (orc : List Bool) (f : FuncId) (args : List Value) : Option (Value × List (Bool × Bool)) :=
  match simCall E fuel fl orc f args with
  | some (v, l, _) => some (v, l)
  | none => none
theorem ret {P : Program} {gl : Nat → Option (List Value)} {c : Tab} (hc : TabOk P gl c) {fuel : Nat} (fls : List (List Bool)) (orc : List Bool) {f : FuncId} {args : List Value} {v : Value} (l : List (Bool × Bool))
    (h : simVal { P := P, glob := gl, call := c } fuel fls orc f args = some (v, l)) (hl : ∀ p ∈ l, p.1 = p.2) (w : World) (hG : GlobOk gl w) : Ret P f args.toArray v w := by
  unfold simVal at h
  split at h
  · rename_i u l' mem hs
    simp only [Option.some.injEq, Prod.mk.injEq] at h
    obtain ⟨rfl, rfl⟩ := h
    exact simCall_below (E := { P := P, glob := gl, call := c }) (callOk_of hc) hs hl w hG
  · cases h
theorem retP {P : Program} {gl : Nat → Option (List Value)} {c : Tab} {pc : PTab} (hc : TabOk P gl c) (hp : PTabOk P gl pc) {fuel : Nat} (fls : List (List Bool)) (orc : List Bool) {f : FuncId} {args : List Value} {v : Value} (l : List (Bool × Bool))
    (h : simVal { P := P, glob := gl, call := c, pcall := pc } fuel fls orc f args = some (v, l)) (hl : ∀ p ∈ l, p.1 = p.2) (w : World) (hG : GlobOk gl w) : Ret P f args.toArray v w := by
  unfold simVal at h
  split at h
  · rename_i u l' mem hs
    simp only [Option.some.injEq, Prod.mk.injEq] at h
    obtain ⟨rfl, rfl⟩ := h
    exact simCall_below (E := { P := P, glob := gl, call := c, pcall := pc }) ⟨hc, hp⟩ hs hl w hG
  · cases h
def runs (E : Env) (fuel : Nat) (f : FuncId) (args : Nat → List Value) (g : Nat → Value) (n : Nat) : Bool :=
  match simCall E fuel [] [] f (args n) with
  | some (v, [], _) => eqV v (g n)
  | _ => false
theorem runs_ret {P : Program} {gl : Nat → Option (List Value)} {c : Tab} (hc : TabOk P gl c) {fuel : Nat} {f : FuncId} {args : Nat → List Value} {g : Nat → Value} {N : Nat}
    (h : (List.range N).all (runs { P := P, glob := gl, call := c } fuel f args g) = true) (n : Nat) (hn : n < N) (w : World) (hG : GlobOk gl w) : Ret P f (args n).toArray (g n) w := by
  have h1 := List.all_eq_true.mp h n (List.mem_range.mpr hn)
  unfold runs at h1
  split at h1
  · rename_i v m hs
    rw [← eqV_eq _ _ h1]
    exact simCall_below (E := { P := P, glob := gl, call := c }) (callOk_of hc) hs (fun p hp => by cases hp) w hG
  · cases h1
end Go.Proofs.YtiajbijbhhpllaaDoor.Sim
namespace Go.Proofs.YtiajbijbhhpllaaDoor
open Go.RowKit
theorem hid {p : Prop} (h : p) : Hid p := h
def Qt (w : World) (v : Value) : Ending → World → Prop := fun e w' => e = .returned v ∧ ∃ m, w' = w.drewN m
theorem Qt.at0 {P : Program} {f : FuncId} {args : Array Value} {w : World} {n : Nat} {v : Value}
    (h : Calls P f args (w.drewN n) (Qt (w.drewN n) v)) : Calls P f args (w.drewN n) fun e w'' => e = .returned v ∧ ∃ m, w'' = w.drewN m :=
  h.mono fun _ _ ⟨he, m, hm⟩ => ⟨he, n + m, by rw [hm, World.drewN_drewN]⟩
theorem Qt.of_same {P : Program} {f : FuncId} {args : Array Value} {w : World} {v : Value}
    (h : Calls P f args w fun e w' => e = .returned v ∧ w = w') : Calls P f args w (Qt w v) :=
  h.mono fun _ _ ⟨he, hm⟩ => ⟨he, 0, hm.symm⟩
theorem Qt.mk (w : World) (v : Value) (m : Nat) : Qt w v (.returned v) (w.drewN m) := ⟨rfl, m, rfl⟩
theorem Qt.eq (w : World) {v v' : Value} (m : Nat) (h : v' = v) : Qt w v (.returned v') (w.drewN m) := ⟨by rw [h], m, rfl⟩
theorem below_draws {B : Nat} {a w : World} (h : Below B a w) (n : Nat) : Below B a (w.drewN n) := ⟨h.os, h.tape, h.output, h.size, h.block⟩
end Go.Proofs.YtiajbijbhhpllaaDoor
namespace Go.Proofs.YtiajbijbhhpllaaDoor
open Go.RowKit
theorem isWidth_yes (n l : Int) (w : World) (h1 : 1 ≤ n) (h2 : n ≤ l) :
    Calls Tryd.prog 85 #[.int .i64 n, .int .i64 l] w fun e w' => e = .returned (.bool true) ∧ w = w' := by
  go_enter Tryd.func85, Tryd.ntmps85
  go_wp2
  go_ret
  exact ⟨rfl, rfl⟩
theorem isWidth_no (n l : Int) (w : World) (h : n < 1 ∨ l < n) :
    Calls Tryd.prog 85 #[.int .i64 n, .int .i64 l] w fun e w' => e = .returned (.bool false) ∧ w = w' := by
  rcases h with h | h
  · go_enter Tryd.func85, Tryd.ntmps85
    go_wp2
    go_ret
    exact ⟨rfl, rfl⟩
  · have hd : decide (n ≤ l) = false := by simpa using h
    by_cases h1 : 1 ≤ n
    all_goals
      go_enter Tryd.func85, Tryd.ntmps85
      go_wp2
      go_ret
      exact ⟨rfl, rfl⟩
theorem ones_any (n : Nat) (w : World) (h1 : 1 ≤ n) (h2 : n ≤ 32) :
    Calls Tryd.prog 94 #[.int .i64 n] w fun e w' => e = .returned (.int .u32 ((2 ^ n - 1 : Nat) : Int)) ∧ w = w' := by
  go_enter Tryd.func94, Tryd.ntmps94
  go_wp2
  go_ret
  exact ⟨ret_int (ones_eq n h2), rfl⟩
theorem isField_yes (a n : Int) (w : World) (h1 : 1 ≤ n) (h2 : n ≤ 32) (h3 : 0 ≤ a) (h4 : a ≤ 32 - n) :
    Calls Tryd.prog 93 #[.int .i64 a, .int .i64 n] w fun e w' => e = .returned (.bool true) ∧ w = w' := by
  go_enter Tryd.func93, Tryd.ntmps93
  go_wp2_with (go_at_call 85; refine (isWidth_yes _ _ _ h1 h2).mono ?_; rintro e w' ⟨rfl, rfl⟩)
  go_ret
  exact ⟨rfl, rfl⟩
theorem get_yes (x a n : Nat) (w : World) (hx : x < 4294967296) (h1 : 1 ≤ n) (h2 : n ≤ 32) (h4 : a + n ≤ 32) :
    Calls Tryd.prog 90 #[.int .u32 x, .int .i64 a, .int .i64 n] w (Qt w (.tuple #[.int .u32 (getF x a n : Nat), .int .i64 0])) := by
  go_enter Tryd.func90, Tryd.ntmps90
  go_wp2_with (go_at_call 93; refine (isField_yes _ _ _ (by omega) (by omega) (by omega) (by omega)).mono ?_; rintro e w' ⟨rfl, rfl⟩)
  go_quiet ((go_at_call 94; exact Qt.at0 (Qt.of_same (ones_any n _ h1 h2))))
  go_wp2
  go_ret2
  exact Qt.eq _ _ (by rw [get_eq x a n hx h2]; rfl)
theorem put_yes (x a n v : Nat) (w : World) (hx : x < 4294967296) (hv : v < 4294967296) (h1 : 1 ≤ n) (h2 : n ≤ 32) (h4 : a + n ≤ 32) :
    Calls Tryd.prog 96 #[.int .u32 x, .int .i64 a, .int .i64 n, .int .u32 v] w (Qt w (.tuple #[.int .u32 (putF x a n v : Nat), .int .i64 0])) := by
  go_enter Tryd.func96, Tryd.ntmps96
  go_wp2_with (go_at_call 93; refine (isField_yes _ _ _ (by omega) (by omega) (by omega) (by omega)).mono ?_; rintro e w' ⟨rfl, rfl⟩)
  go_quiet ((go_at_call 94; exact Qt.at0 (Qt.of_same (ones_any n _ h1 h2))))
  go_wp2
  go_ret2
  exact Qt.eq _ _ (by rw [put_eq x a n v hx hv h2 h4]; rfl)
theorem sign_yes (x n : Nat) (w : World) (h1 : 1 ≤ n) (h2 : n ≤ 32) :
    Calls Tryd.prog 87 #[.int .u32 x, .int .i64 n] w fun e w' => e = .returned (.tuple #[.int .i64 (signN x n), .int .i64 0]) ∧ w = w' := by
  go_enter Tryd.func87, Tryd.ntmps87
  go_wp2_with (go_at_call 85; refine (isWidth_yes _ _ _ (by omega) (by omega)).mono ?_; rintro e w' ⟨rfl, rfl⟩)
  go_ret2
  exact ⟨by rw [sign_eq x n h1 h2]; rfl, rfl⟩
theorem fits_no (x n : Int) (w : World) (h : n < 1 ∨ 64 < n) :
    Calls Tryd.prog 65 #[.int .i64 x, .int .i64 n] w fun e w' => e = .returned (.bool false) ∧ w = w' := by
  go_enter Tryd.func65, Tryd.ntmps65
  go_wp2_with (go_at_call 85; refine (isWidth_no _ _ _ h).mono ?_; rintro e w' ⟨rfl, rfl⟩)
  go_ret
  exact ⟨rfl, rfl⟩
theorem fits_at (x : Int) (n : Nat) (w : World) (h1 : 1 ≤ n) (h2 : n ≤ 64) :
    Calls Tryd.prog 65 #[.int .i64 x, .int .i64 n] w fun e w' => e = .returned (.bool (fitsB x n)) ∧ w = w' := by
  go_enter Tryd.func65, Tryd.ntmps65
  go_wp2_with (go_at_call 85; refine (isWidth_yes _ _ _ (by omega) (by omega)).mono ?_; rintro e w' ⟨rfl, rfl⟩)
  all_goals
    go_ret
    exact ⟨by simp [fitsB, *], rfl⟩
end Go.Proofs.YtiajbijbhhpllaaDoor
namespace Go.Proofs.YtiajbijbhhpllaaDoor
abbrev Gl := Nat → Option (List Go.Value)
end Go.Proofs.YtiajbijbhhpllaaDoor
namespace Go.Proofs.YtiajbijbhhpllaaDoor
open Go.RowKit Sim
def O1 : List (List Bool) := [[true]]
def O2 : List (List Bool) := [[true], [true]]
def O3 : List (List Bool) := [[true], [true], [true]]
def OIn : List (List Bool) := [[true, true, true, true, true, true, true]]
theorem btw_eq (v l m : Int) : btwB v l m = (decide (l ≤ v) && decide (v ≤ m)) := by unfold btwB; simp
theorem isBetween_ret {gl : Gl} (v l m : Int) (w : World) (hG : GlobOk gl w) : Ret Tryd.prog 64 #[.int .i64 v, .int .i64 l, .int .i64 m] (.bool (btwB v l m)) w := by
  have hc : TabOk Tryd.prog gl noT := .none _ _
  cases h0 : (decide (l ≤ v))
  case true => exact (ret hc (fuel := 1000) O3 [true] (v := .bool (decide (v ≤ m))) [(decide (l ≤ v), true)] (by kernel_rfl) (by simp [h0]) w hG).of_eq (by simp [btw_eq, h0])
  case false => exact (ret hc (fuel := 1000) O3 [false] (v := .bool false) [(decide (l ≤ v), false)] (by kernel_rfl) (by simp [h0]) w hG).of_eq (by simp [btw_eq, h0])
def tBetween : Tab := row 64 decIII fun x => .bool (btwB x.1 x.2.1 x.2.2)
theorem tBetween_ok {gl : Gl} : TabOk Tryd.prog gl tBetween := tabIII fun x y z w hG => isBetween_ret x y z w hG
theorem exists_ret {gl : Gl} (op : Int) (w : World) (hG : GlobOk gl w) : Ret Tryd.prog 44 #[.int .i64 op] (.bool (okB op)) w :=
  (ret tBetween_ok (fuel := 1000) O1 [] (v := .bool (btwB op 1 87)) [] (by kernel_rfl) (fun _ h => by cases h) w hG).of_eq rfl
def tExists : Tab := row 44 decI fun x => .bool (okB x)
theorem tExists_ok {gl : Gl} : TabOk Tryd.prog gl tExists := tabI fun x w hG => exists_ret x w hG
theorem isEven_ret {gl : Gl} (v : Int) (w : World) (hG : GlobOk gl w) : Ret Tryd.prog 66 #[.int .i64 v] (.bool (evenB v)) w :=
  ret (TabOk.none _ _) (fuel := 1000) O1 [] (v := .bool (evenB v)) [] (by kernel_rfl) (fun _ h => by cases h) w hG
def tEven : Tab := row 66 decI fun x => .bool (evenB x)
theorem tEven_ok {gl : Gl} : TabOk Tryd.prog gl tEven := tabI fun x w hG => isEven_ret x w hG
theorem fits_ret {gl : Gl} (v n : Int) (w : World) (hG : GlobOk gl w) : Ret Tryd.prog 65 #[.int .i64 v, .int .i64 n] (.bool (fitZ v n)) w := by
  unfold fitZ
  by_cases h : 1 ≤ n ∧ n ≤ 64
  · rw [if_pos h]
    obtain ⟨m, rfl⟩ : ∃ m : Nat, n = m := ⟨n.toNat, by omega⟩
    exact Ret.of_same (fits_at v m w (by omega) (by omega))
  · rw [if_neg h]
    exact Ret.of_same (fits_no v n w (by omega))
def tFits : Tab := row 65 decII fun x => .bool (fitZ x.1 x.2)
theorem tFits_ok {gl : Gl} : TabOk Tryd.prog gl tFits := tabII fun x y w hG => fits_ret x y w hG
theorem classify_in {gl : Gl} : (List.range 88).all (runs { P := Tryd.prog, glob := gl, call := noT } 1000 48 (fun n => [.int .i64 n]) fun n => .agg #[.int .i64 (formZ n), .bool (readZ n), .bool (writeZ n)]) = true := by kernel_rfl
def classL : List Int := [1, 2, 3, 11, 12, 13, 14, 15, 16, 17, 4, 22, 23, 24, 25, 26, 27, 31, 5, 6, 7, 8, 9, 10, 18, 19, 20, 21, 28, 29, 30, 32, 33, 34, 35, 36, 37, 38, 39, 40, 41, 42, 43, 44, 45, 46, 47, 48, 49, 50, 51, 52, 53, 54, 55, 56, 57, 58, 59, 60, 61, 62, 63, 64, 65, 66, 77, 68, 69, 70, 71, 72, 73, 74, 75, 76, 79, 80, 81, 82, 83, 84, 85, 86, 87, 67, 78]
theorem class_rng : ∀ k ∈ classL, 1 ≤ k ∧ k ≤ 87 := by decide +kernel
theorem classify_ret {gl : Gl} (op : Int) (w : World) (hG : GlobOk gl w) : Ret Tryd.prog 48 #[.int .i64 op] (.agg #[.int .i64 (formZ op), .bool (readZ op), .bool (writeZ op)]) w := by
  rcases op_cases op with ⟨n, h1, h2, rfl⟩ | h
  · exact runs_ret (TabOk.none _ _) classify_in n h2 w hG
  · refine (ret (TabOk.none _ _) (fuel := 1000) O1 (List.replicate 87 false) (v := .agg #[.int .i64 (-1), .bool false, .bool false]) (classL.reverse.map fun k => (op == k, false)) (by kernel_rfl) (fun p hp => ?_) w hG).of_eq (by rw [formZ_out h, readZ_out h, writeZ_out h])
    obtain ⟨k, hk, rfl⟩ := List.mem_map.mp hp
    have := class_rng k (List.mem_reverse.mp hk)
    simp; omega
def tClass : Tab := row 48 decI fun x => .agg #[.int .i64 (formZ x), .bool (readZ x), .bool (writeZ x)]
theorem tClass_ok {gl : Gl} : TabOk Tryd.prog gl tClass := tabI fun x w hG => classify_ret x w hG
theorem form_ret {gl : Gl} (op : Int) (w : World) (hG : GlobOk gl w) : Ret Tryd.prog 33 #[.int .i64 op] (.int .i64 (formZ op)) w :=
  ret tClass_ok (fuel := 1000) O1 [] (v := .int .i64 (formZ op)) [] (by kernel_rfl) (fun _ h => by cases h) w hG
def tForm : Tab := row 33 decI fun x => .int .i64 (formZ x)
theorem tForm_ok {gl : Gl} : TabOk Tryd.prog gl tForm := tabI fun x w hG => form_ret x w hG
theorem access_ret {gl : Gl} (op : Int) (w : World) (hG : GlobOk gl w) : Ret Tryd.prog 31 #[.int .i64 op] (.tuple #[.bool (readZ op), .bool (writeZ op)]) w :=
  ret tClass_ok (fuel := 1000) O1 [] (v := .tuple #[.bool (readZ op), .bool (writeZ op)]) [] (by kernel_rfl) (fun _ h => by cases h) w hG
def tAccess : Tab := row 31 decI fun x => .tuple #[.bool (readZ x), .bool (writeZ x)]
theorem tAccess_ok {gl : Gl} : TabOk Tryd.prog gl tAccess := tabI fun x w hG => access_ret x w hG
theorem wide_ret {gl : Gl} (op : Int) (w : World) (hG : GlobOk gl w) : Ret Tryd.prog 43 #[.int .i64 op] (.bool (wideB op)) w := by
  cases h0 : (op == 14)
  case true => exact (ret tBetween_ok (fuel := 1000) O1 [true] (v := .bool true) [(op == 14, true)] (by kernel_rfl) (by simp [h0]) w hG).of_eq (by simp [wideB, h0])
  case false =>
    cases h1 : (op == 21)
    case true => exact (ret tBetween_ok (fuel := 1000) O1 [false, true] (v := .bool true) [(op == 21, true), (op == 14, false)] (by kernel_rfl) (by simp [h0, h1]) w hG).of_eq (by simp [wideB, h0, h1])
    case false => exact (ret tBetween_ok (fuel := 1000) O1 [false, false] (v := .bool (btwB op 77 87)) [(op == 21, false), (op == 14, false)] (by kernel_rfl) (by simp [h0, h1]) w hG).of_eq (by simp [wideB, h0, h1])
def tWide : Tab := row 43 decI fun x => .bool (wideB x)
theorem tWide_ok {gl : Gl} : TabOk Tryd.prog gl tWide := tabI fun x w hG => wide_ret x w hG
theorem branch_ret {gl : Gl} (op : Int) (w : World) (hG : GlobOk gl w) : Ret Tryd.prog 19 #[.int .i64 op] (.bool (formZ op == 4)) w :=
  ret tForm_ok (fuel := 1000) O1 [] (v := .bool (formZ op == 4)) [] (by kernel_rfl) (fun _ h => by cases h) w hG
def tBranch : Tab := row 19 decI fun x => .bool (formZ x == 4)
theorem tBranch_ok {gl : Gl} : TabOk Tryd.prog gl tBranch := tabI fun x w hG => branch_ret x w hG
theorem used_in {gl : Gl} : (List.range 12).all (runs { P := Tryd.prog, glob := gl, call := noT } 1000 45 (fun n => [.int .i64 n]) fun n => .agg #[.bool (rdF n), .bool (aF n), .bool (bF n), .bool (oF n)]) = true := by kernel_rfl
theorem used_ret {gl : Gl} (k : Int) (w : World) (hG : GlobOk gl w) : Ret Tryd.prog 45 #[.int .i64 k] (.agg #[.bool (rdF k), .bool (aF k), .bool (bF k), .bool (oF k)]) w := by
  by_cases h : 0 ≤ k ∧ k < 12
  · obtain ⟨n, rfl⟩ : ∃ n : Nat, k = n := ⟨k.toNat, by omega⟩
    exact runs_ret (TabOk.none _ _) used_in n (by omega) w hG
  · have e : rdF k = false ∧ aF k = false ∧ bF k = false ∧ oF k = false := ⟨atZ_out _ _ _ (by simp; omega), atZ_out _ _ _ (by simp; omega), atZ_out _ _ _ (by simp; omega), atZ_out _ _ _ (by simp; omega)⟩
    refine (ret (TabOk.none _ _) (fuel := 1000) O1 (List.replicate 10 false) (v := .agg #[.bool false, .bool false, .bool false, .bool false]) (([11, 10, 3, 7, 8, 1, 2, 6, 4, 5] : List Int).reverse.map fun j => (k == j, false)) (by kernel_rfl) (fun p hp => ?_) w hG).of_eq (by rw [e.1, e.2.1, e.2.2.1, e.2.2.2])
    obtain ⟨j, hj, rfl⟩ := List.mem_map.mp hp
    have : 0 ≤ j ∧ j < 12 := (show ∀ j ∈ ([11, 10, 3, 7, 8, 1, 2, 6, 4, 5] : List Int).reverse, 0 ≤ j ∧ j < 12 by decide) j hj
    simp; omega
def tUsed : Tab := row 45 decI fun k => .agg #[.bool (rdF k), .bool (aF k), .bool (bF k), .bool (oF k)]
theorem tUsed_ok {gl : Gl} : TabOk Tryd.prog gl tUsed := tabI fun x w hG => used_ret x w hG
theorem mayRegister_ret {gl : Gl} (r : Int) (u : Bool) (w : World) (hG : GlobOk gl w) : Ret Tryd.prog 46 #[.int .i64 r, .bool u] (.bool (regB r u)) w := by
  cases h0 : (!u)
  case true => exact (ret tBetween_ok (fuel := 1000) O2 [true] (v := .bool (r == 0)) [(!u, true)] (by kernel_rfl) (by simpa using h0) w hG).of_eq (by simp at h0; simp [regB, h0]; rfl)
  case false => exact (ret tBetween_ok (fuel := 1000) O2 [false] (v := .bool (btwB r 0 31)) [(!u, false)] (by kernel_rfl) (by simpa using h0) w hG).of_eq (by simp at h0; simp [regB, h0, btwB])
def tReg : Tab := row 46 decIB fun x => .bool (regB x.1 x.2)
theorem tReg_ok {gl : Gl} : TabOk Tryd.prog gl tReg := tabIB fun x y w hG => mayRegister_ret x y w hG
theorem mayImm_ret {gl : Gl} (v k : Int) (w : World) (hG : GlobOk gl w) : Ret Tryd.prog 47 #[.int .i64 v, .int .i64 k] (.bool (immB v k)) w := by
  have hc : TabOk Tryd.prog gl (orT tFits <| orT tEven tBetween) := tFits_ok.or (tEven_ok.or tBetween_ok)
  cases h0 : (k == 1)
  case true =>
    exact (ret hc (fuel := 1000) O2 [true] (v := .bool (fitZ v 20)) [(k == 1, true)] (by kernel_rfl) (by simp [h0]) w hG).of_eq (by simp [immB, h0])
  case false =>
    cases h1 : (k == 2)
    case true =>
      cases h2 : (evenB v)
      case true =>
        exact (ret hc (fuel := 1000) O2 [false, true, true] (v := .bool (fitZ v 21)) [(evenB v, true), (k == 2, true), (k == 1, false)] (by kernel_rfl) (by simp [h0, h1, h2]) w hG).of_eq (by simp [immB, h0, h1, h2])
      case false =>
        exact (ret hc (fuel := 1000) O2 [false, true, false] (v := .bool (false)) [(evenB v, false), (k == 2, true), (k == 1, false)] (by kernel_rfl) (by simp [h0, h1, h2]) w hG).of_eq (by simp [immB, h0, h1, h2])
    case false =>
      cases h2 : (k == 4)
      case true =>
        cases h3 : (evenB v)
        case true =>
          exact (ret hc (fuel := 1000) O2 [false, false, true, true] (v := .bool (fitZ v 13)) [(evenB v, true), (k == 4, true), (k == 2, false), (k == 1, false)] (by kernel_rfl) (by simp [h0, h1, h2, h3]) w hG).of_eq (by simp [immB, h0, h1, h2, h3])
        case false =>
          exact (ret hc (fuel := 1000) O2 [false, false, true, false] (v := .bool (false)) [(evenB v, false), (k == 4, true), (k == 2, false), (k == 1, false)] (by kernel_rfl) (by simp [h0, h1, h2, h3]) w hG).of_eq (by simp [immB, h0, h1, h2, h3])
      case false =>
        cases h3 : (k == 3)
        case true =>
          exact (ret hc (fuel := 1000) O2 [false, false, false, true] (v := .bool (fitZ v 12)) [(k == 3, true), (k == 4, false), (k == 2, false), (k == 1, false)] (by kernel_rfl) (by simp [h0, h1, h2, h3]) w hG).of_eq (by simp [immB, h0, h1, h2, h3])
        case false =>
          cases h4 : (k == 5)
          case true =>
            exact (ret hc (fuel := 1000) O2 [false, false, false, false, true] (v := .bool (fitZ v 12)) [(k == 5, true), (k == 3, false), (k == 4, false), (k == 2, false), (k == 1, false)] (by kernel_rfl) (by simp [h0, h1, h2, h3, h4]) w hG).of_eq (by simp [immB, h0, h1, h2, h3, h4])
          case false =>
            cases h5 : (k == 7)
            case true =>
              exact (ret hc (fuel := 1000) O2 [false, false, false, false, false, true] (v := .bool (btwB v 0 63)) [(k == 7, true), (k == 5, false), (k == 3, false), (k == 4, false), (k == 2, false), (k == 1, false)] (by kernel_rfl) (by simp [h0, h1, h2, h3, h4, h5]) w hG).of_eq (by simp [immB, h0, h1, h2, h3, h4, h5])
            case false =>
              cases h6 : (k == 8)
              case true =>
                exact (ret hc (fuel := 1000) O2 [false, false, false, false, false, false, true] (v := .bool (btwB v 0 31)) [(k == 8, true), (k == 7, false), (k == 5, false), (k == 3, false), (k == 4, false), (k == 2, false), (k == 1, false)] (by kernel_rfl) (by simp [h0, h1, h2, h3, h4, h5, h6]) w hG).of_eq (by simp [immB, h0, h1, h2, h3, h4, h5, h6])
              case false =>
                cases h7 : (k == 9)
                case true =>
                  exact (ret hc (fuel := 1000) O2 [false, false, false, false, false, false, false, true] (v := .bool (btwB v 0 255)) [(k == 9, true), (k == 8, false), (k == 7, false), (k == 5, false), (k == 3, false), (k == 4, false), (k == 2, false), (k == 1, false)] (by kernel_rfl) (by simp [h0, h1, h2, h3, h4, h5, h6, h7]) w hG).of_eq (by simp [immB, h0, h1, h2, h3, h4, h5, h6, h7])
                case false =>
                  exact (ret hc (fuel := 1000) O2 [false, false, false, false, false, false, false, false] (v := .bool (v == 0)) [(k == 9, false), (k == 8, false), (k == 7, false), (k == 5, false), (k == 3, false), (k == 4, false), (k == 2, false), (k == 1, false)] (by kernel_rfl) (by simp [h0, h1, h2, h3, h4, h5, h6, h7]) w hG).of_eq (by simp [immB, h0, h1, h2, h3, h4, h5, h6, h7])
def tImm : Tab := row 47 decII fun x => .bool (immB x.1 x.2)
theorem tImm_ok {gl : Gl} : TabOk Tryd.prog gl tImm := tabII fun x y w hG => mayImm_ret x y w hG
def tMayC : Tab := orT tExists <| orT tForm <| orT tUsed <| orT tReg tImm
theorem tMayC_ok {gl : Gl} : TabOk Tryd.prog gl tMayC := tExists_ok.or (tForm_ok.or (tUsed_ok.or (tReg_ok.or tImm_ok)))
theorem may_ret {gl : Gl} (i : In) (w : World) (hG : GlobOk gl w) : Ret Tryd.prog 30 #[inV i] (.bool (mayB i)) w := by
  cases h0 : (okB i.op)
  case true =>
    cases h1 : (regB i.rd (rdF (formZ i.op)))
    case true =>
      cases h2 : (regB i.a (aF (formZ i.op)))
      case true =>
        cases h3 : (regB i.b (bF (formZ i.op)))
        case true =>
          cases h4 : (immB i.imm (formZ i.op))
          case true =>
            cases h5 : (oF (formZ i.op))
            case true =>
              exact (ret tMayC_ok (fuel := 1000) OIn [false, true, true, true, true, true] (v := .bool (true)) [(oF (formZ i.op), true), (immB i.imm (formZ i.op), true), (regB i.b (bF (formZ i.op)), true), (regB i.a (aF (formZ i.op)), true), (regB i.rd (rdF (formZ i.op)), true), (!okB i.op, false)] (by kernel_rfl) (by simp [h0, h1, h2, h3, h4, h5]) w hG).of_eq (by simp [mayB, h0, h1, h2, h3, h4, h5])
            case false =>
              cases h6 : (i.aq)
              case true =>
                exact (ret tMayC_ok (fuel := 1000) OIn [false, true, true, true, true, false, false] (v := .bool (false)) [(!i.aq, false), (oF (formZ i.op), false), (immB i.imm (formZ i.op), true), (regB i.b (bF (formZ i.op)), true), (regB i.a (aF (formZ i.op)), true), (regB i.rd (rdF (formZ i.op)), true), (!okB i.op, false)] (by kernel_rfl) (by simp [h0, h1, h2, h3, h4, h5, h6]) w hG).of_eq (by simp [mayB, h0, h1, h2, h3, h4, h5, h6])
              case false =>
                exact (ret tMayC_ok (fuel := 1000) OIn [false, true, true, true, true, false, true] (v := .bool (!i.rl)) [(!i.aq, true), (oF (formZ i.op), false), (immB i.imm (formZ i.op), true), (regB i.b (bF (formZ i.op)), true), (regB i.a (aF (formZ i.op)), true), (regB i.rd (rdF (formZ i.op)), true), (!okB i.op, false)] (by kernel_rfl) (by simp [h0, h1, h2, h3, h4, h5, h6]) w hG).of_eq (by simp [mayB, h0, h1, h2, h3, h4, h5, h6])
          case false =>
            exact (ret tMayC_ok (fuel := 1000) OIn [false, true, true, true, false] (v := .bool (false)) [(immB i.imm (formZ i.op), false), (regB i.b (bF (formZ i.op)), true), (regB i.a (aF (formZ i.op)), true), (regB i.rd (rdF (formZ i.op)), true), (!okB i.op, false)] (by kernel_rfl) (by simp [h0, h1, h2, h3, h4]) w hG).of_eq (by simp [mayB, h0, h1, h2, h3, h4])
        case false =>
          exact (ret tMayC_ok (fuel := 1000) OIn [false, true, true, false] (v := .bool (false)) [(regB i.b (bF (formZ i.op)), false), (regB i.a (aF (formZ i.op)), true), (regB i.rd (rdF (formZ i.op)), true), (!okB i.op, false)] (by kernel_rfl) (by simp [h0, h1, h2, h3]) w hG).of_eq (by simp [mayB, h0, h1, h2, h3])
      case false =>
        exact (ret tMayC_ok (fuel := 1000) OIn [false, true, false] (v := .bool (false)) [(regB i.a (aF (formZ i.op)), false), (regB i.rd (rdF (formZ i.op)), true), (!okB i.op, false)] (by kernel_rfl) (by simp [h0, h1, h2]) w hG).of_eq (by simp [mayB, h0, h1, h2])
    case false =>
      exact (ret tMayC_ok (fuel := 1000) OIn [false, false] (v := .bool (false)) [(regB i.rd (rdF (formZ i.op)), false), (!okB i.op, false)] (by kernel_rfl) (by simp [h0, h1]) w hG).of_eq (by simp [mayB, h0, h1])
  case false =>
    exact (ret tMayC_ok (fuel := 1000) OIn [true] (v := .bool (false)) [(!okB i.op, true)] (by kernel_rfl) (by simp [h0]) w hG).of_eq (by simp [mayB, h0])
def tMay : Tab := row 30 decIn fun i => .bool (mayB i)
theorem tMay_ok {gl : Gl} : TabOk Tryd.prog gl tMay := tabV decIn_eq fun x w hG => may_ret x w hG
theorem writes_ret {gl : Gl} (i : In) (w : World) (hG : GlobOk gl w) : Ret Tryd.prog 14 #[inV i] (.tuple #[.int .i64 (bif mayB i && i.rd != 0 then i.rd else 0), .bool (mayB i && i.rd != 0)]) w := by
  cases h0 : (mayB i)
  case true =>
    cases h1 : (i.rd == 0)
    case true =>
      exact (ret tMay_ok (fuel := 1000) OIn [false, true] (v := .tuple #[.int .i64 (0), .bool (false)]) [(i.rd == 0, true), (!mayB i, false)] (by kernel_rfl) (by simp [h0, h1]) w hG).of_eq (by simp [bne, inV, h0, h1])
    case false =>
      exact (ret tMay_ok (fuel := 1000) OIn [false, false] (v := .tuple #[.int .i64 (i.rd), .bool (true)]) [(i.rd == 0, false), (!mayB i, false)] (by kernel_rfl) (by simp [h0, h1]) w hG).of_eq (by simp [bne, inV, h0, h1])
  case false =>
    exact (ret tMay_ok (fuel := 1000) OIn [true] (v := .tuple #[.int .i64 (0), .bool (false)]) [(!mayB i, true)] (by kernel_rfl) (by simp [h0]) w hG).of_eq (by simp [bne, inV, h0])
end Go.Proofs.YtiajbijbhhpllaaDoor
namespace Go.Proofs.YtiajbijbhhpllaaDoor
open Go.RowKit
theorem or_field (w a n v : Nat) (hv : v < 2 ^ n) (hz : w / 2 ^ a % 2 ^ n = 0) : w ||| v * 2 ^ a = w + v * 2 ^ a := by
  have hr : w % 2 ^ a < 2 ^ a := Nat.mod_lt _ (Nat.two_pow_pos a)
  have hq : w = 2 ^ (a + n) * (w / 2 ^ a / 2 ^ n) + w % 2 ^ a := by
    have h1 := Nat.div_add_mod w (2 ^ a)
    have h2 := Nat.div_add_mod (w / 2 ^ a) (2 ^ n)
    rw [hz, Nat.add_zero] at h2
    rw [Nat.pow_add, Nat.mul_assoc, h2]; exact h1.symm
  generalize w % 2 ^ a = r at *
  generalize w / 2 ^ a / 2 ^ n = q at *
  subst hq
  have hle : 2 ^ a ≤ 2 ^ (a + n) := Nat.pow_le_pow_right (by omega) (by omega)
  have hm : 2 ^ a * v + r < 2 ^ (a + n) := by
    have : 2 ^ a * (v + 1) ≤ 2 ^ a * 2 ^ n := Nat.mul_le_mul_left _ hv
    rw [Nat.pow_add]; rw [Nat.mul_add] at this; omega
  have e1 : 2 ^ (a + n) * q + r + v * 2 ^ a = 2 ^ (a + n) * q + (2 ^ a * v + r) := by rw [Nat.mul_comm v]; omega
  rw [e1, Nat.two_pow_add_eq_or_of_lt hm, Nat.two_pow_add_eq_or_of_lt hr, Nat.two_pow_add_eq_or_of_lt (Nat.lt_of_lt_of_le hr hle), Nat.mul_comm v, Nat.or_assoc, Nat.or_comm r]
theorem put_or (w a n v : Nat) (hw : w < 4294967296) (h4 : a + n ≤ 32) (hz : w / 2 ^ a % 2 ^ n = 0) : putF w a n v = w + v % 2 ^ n * 2 ^ a := by
  rw [← or_field w a n (v % 2 ^ n) (Nat.mod_lt _ (Nat.two_pow_pos n)) hz]
  apply Nat.eq_of_testBit_eq
  intro i
  rw [test_putF _ _ _ _ _ hw h4, Nat.testBit_or, Nat.testBit_mul_two_pow, Nat.testBit_mod_two_pow]
  by_cases h : a ≤ i ∧ i < a + n
  · have h0 : w.testBit i = false := by
      have := test_getF w a n (i - a)
      rw [show getF w a n = 0 from hz, Nat.zero_testBit, show a + (i - a) = i by omega, decide_eq_true (show i - a < n by omega)] at this
      simpa using this.symm
    rw [if_pos h, h0, decide_eq_true (show i ≥ a from h.1), decide_eq_true (show i - a < n by omega)]; simp
  · rw [if_neg h]
    by_cases h1 : a ≤ i
    · rw [decide_eq_false (show ¬ i - a < n by omega)]; simp
    · rw [decide_eq_false (show ¬ i ≥ a by omega)]; simp
def wordL : List Int := [0, 55, 23, 111, 103, 99, 4195, 16483, 20579, 24675, 28771, 3, 4099, 8195, 12291, 16387, 20483, 24579, 35, 4131, 8227, 12323, 19, 8211, 12307, 16403, 24595, 28691, 4115, 20499, 1073762323, 27, 4123, 20507, 1073762331, 51, 1073741875, 4147, 8243, 12339, 16435, 20531, 1073762355, 24627, 28723, 59, 1073741883, 4155, 20539, 1073762363, 33554483, 33558579, 33562675, 33566771, 33570867, 33574963, 33579059, 33583155, 33554491, 33570875, 33574971, 33579067, 33583163, 15, 115, 1048691, 268443695, 402661423, 134225967, 8239, 536879151, 1610620975, 1073750063, 2147491887, 2684362799, 3221233711, 3758104623, 268447791, 402665519, 134230063, 12335, 536883247, 1610625071, 1073754159, 2147495983, 2684366895, 3221237807, 3758108719]
def wordZ (op : Int) : Int := atZ wordL 0 op
def immZ (k v : Int) : Int :=
  bif k == 1 then v % 1048576 * 4096
  else bif k == 2 then v / 1048576 % 2 * 2147483648 + v / 4096 % 256 * 4096 + v / 2048 % 2 * 1048576 + v / 2 % 1024 * 2097152
  else bif k == 3 then v % 4096 * 1048576
  else bif k == 4 then v / 4096 % 2 * 2147483648 + v / 2048 % 2 * 128 + v / 32 % 64 * 33554432 + v / 2 % 16 * 256
  else bif k == 5 then v / 32 % 128 * 33554432 + v % 32 * 128
  else bif k == 7 then v % 64 * 1048576
  else bif k == 8 then v % 32 * 1048576
  else bif k == 9 then v % 256 * 1048576
  else 0
def b01 (b : Bool) : Int := bif b then 1 else 0
theorem b01_cases (b : Bool) : b01 b = 0 ∨ b01 b = 1 := by cases b <;> simp [b01]
def encZ (i : In) : Int := wordZ i.op + i.rd * 128 + i.a * 32768 + i.b * 1048576 + immZ (formZ i.op) i.imm + b01 i.aq * 67108864 + b01 i.rl * 33554432
def wordOk (k w : Int) : Bool := decide (0 ≤ w ∧ w < 4294967296) &&
  (bif k == 1 || k == 2 then decide (w < 128)
  else bif k == 3 || k == 4 || k == 5 then decide (w < 32768 ∧ w / 128 % 32 = 0)
  else bif k == 6 || k == 8 then decide (w / 128 % 32 = 0 ∧ w / 32768 % 1024 = 0)
  else bif k == 7 then decide (w / 128 % 32 = 0 ∧ w / 32768 % 2048 = 0)
  else bif k == 9 then decide (w = 15)
  else bif k == 10 || k == 11 then decide (w / 128 % 32 = 0 ∧ w / 32768 % 4096 = 0)
  else true)
theorem word_ok' : ∀ n : Fin 88, wordOk (formZ n.val) (wordZ n.val) = true := by decide +kernel
theorem wordOk_of {op : Int} (h : okB op = true) : wordOk (formZ op) (wordZ op) = true := by
  rcases op_cases op with ⟨n, h1, h2, rfl⟩ | h'
  · exact word_ok' ⟨n, h2⟩
  · rw [okB_out h'] at h; cases h
theorem form_rng' : ∀ n : Fin 88, n.val ≠ 0 → 0 ≤ formZ n.val ∧ formZ n.val ≤ 11 := by decide +kernel
theorem form_rng {op : Int} (h : okB op = true) : 0 ≤ formZ op ∧ formZ op ≤ 11 := by
  rcases op_cases op with ⟨n, h1, h2, rfl⟩ | h'
  · exact form_rng' ⟨n, h2⟩ (by simp; omega)
  · rw [okB_out h'] at h; cases h
structure Fld (k : Int) (W : Int) (i : In) : Prop where
  rd0 : 0 ≤ i.rd
  rd1 : i.rd ≤ 31
  rdn : rdF k = false → i.rd = 0
  a0 : 0 ≤ i.a
  a1 : i.a ≤ 31
  an : aF k = false → i.a = 0
  b0 : 0 ≤ i.b
  b1 : i.b ≤ 31
  bn : bF k = false → i.b = 0
  im : immB i.imm k = true
  aq : oF k = false → i.aq = false ∧ i.rl = false
  wd : wordOk k W = true
theorem reg_rng {r : Int} {u : Bool} (h : regB r u = true) : 0 ≤ r ∧ r ≤ 31 ∧ (u = false → r = 0) := by
  unfold regB at h
  split at h
  · rename_i hu; simp only [decide_eq_true_eq] at h; exact ⟨h.1, h.2, fun hn => by rw [hu] at hn; cases hn⟩
  · simp only [decide_eq_true_eq] at h; subst h; exact ⟨by omega, by omega, fun _ => rfl⟩
theorem may_ok {i : In} (h : mayB i = true) : okB i.op = true := by unfold mayB at h; simp only [Bool.and_eq_true] at h; exact h.1
theorem may_fld {i : In} (h : mayB i = true) : Fld (formZ i.op) (wordZ i.op) i := by
  have ho := may_ok h
  unfold mayB at h
  simp only [Bool.and_eq_true, Bool.or_eq_true, Bool.not_eq_true'] at h
  obtain ⟨_, h1, h2, h3, h4, h5⟩ := h
  obtain ⟨r0, r1, r2⟩ := reg_rng h1
  obtain ⟨a0, a1, a2⟩ := reg_rng h2
  obtain ⟨b0, b1, b2⟩ := reg_rng h3
  exact ⟨r0, r1, r2, a0, a1, a2, b0, b1, b2, h4, fun hn => by rcases h5 with h5 | h5
                                                              · rw [hn] at h5; cases h5
                                                              · exact h5, wordOk_of ho⟩
def immRg (k v : Int) : Prop :=
  (k = 1 → -524288 ≤ v ∧ v < 524288) ∧ (k = 2 → -1048576 ≤ v ∧ v < 1048576 ∧ v % 2 = 0) ∧ (k = 4 → -4096 ≤ v ∧ v < 4096 ∧ v % 2 = 0) ∧ (k = 3 ∨ k = 5 → -2048 ≤ v ∧ v < 2048) ∧ (k = 7 → 0 ≤ v ∧ v < 64) ∧ (k = 8 → 0 ≤ v ∧ v < 32) ∧ (k = 9 → 0 ≤ v ∧ v < 256) ∧ (k = 0 ∨ k = 6 ∨ k = 10 ∨ k = 11 → v = 0)
theorem fitZ_rng {v : Int} (n : Nat) (h : fitZ v n = true) (h1 : 1 ≤ n) (h2 : n ≤ 64) : -((2 ^ (n - 1) : Nat) : Int) ≤ v ∧ v < ((2 ^ (n - 1) : Nat) : Int) := by
  unfold fitZ at h
  rw [if_pos (by omega), Int.toNat_natCast] at h
  exact (fitsB_iff v n).mp h
theorem even_mod {v : Int} (h : evenB v = true) : v % 2 = 0 := by
  unfold evenB at h
  simp only [beq_iff_eq] at h
  exact Int.emod_eq_zero_of_dvd (Int.dvd_of_tmod_eq_zero h)
theorem imm_rng {k v : Int} (h : immB v k = true) (h0 : 0 ≤ k) (h1 : k ≤ 11) : immRg k v := by
  have hk : k = 0 ∨ k = 1 ∨ k = 2 ∨ k = 3 ∨ k = 4 ∨ k = 5 ∨ k = 6 ∨ k = 7 ∨ k = 8 ∨ k = 9 ∨ k = 10 ∨ k = 11 := by omega
  unfold immRg
  rcases hk with rfl | rfl | rfl | rfl | rfl | rfl | rfl | rfl | rfl | rfl | rfl | rfl
  all_goals simp [immB, btwB] at h
  · subst h; simp
  · have := fitZ_rng 20 h (by omega) (by omega); simp at this; omega
  · have := fitZ_rng 21 h.2 (by omega) (by omega); have := even_mod h.1; simp at *; omega
  · have := fitZ_rng 12 h (by omega) (by omega); simp at this; omega
  · have := fitZ_rng 13 h.2 (by omega) (by omega); have := even_mod h.1; simp at *; omega
  · have := fitZ_rng 12 h (by omega) (by omega); simp at this; omega
  all_goals omega
def fixZ (k w : Int) : Int :=
  bif k == 1 || k == 2 then w % 128
  else bif k == 3 || k == 4 || k == 5 then w % 128 + w / 4096 % 8 * 4096
  else bif k == 6 || k == 8 then w % 128 + w / 4096 % 8 * 4096 + w / 33554432 * 33554432
  else bif k == 7 then w % 128 + w / 4096 % 8 * 4096 + w / 67108864 * 67108864
  else bif k == 9 then w % 1048576 + w / 268435456 * 268435456
  else bif k == 10 then w % 128 + w / 4096 % 8 * 4096 + w / 1048576 % 32 * 1048576 + w / 134217728 * 134217728
  else bif k == 11 then w % 128 + w / 4096 % 8 * 4096 + w / 134217728 * 134217728
  else w
def sgn (v p : Int) : Int := if v < p then v else v - 2 * p
def immD (k w : Int) : Int :=
  bif k == 1 then sgn (w / 4096) 524288
  else bif k == 2 then sgn (w / 2147483648 % 2 * 1048576 + w / 2097152 % 1024 * 2 + w / 1048576 % 2 * 2048 + w / 4096 % 256 * 4096) 1048576
  else bif k == 3 then sgn (w / 1048576) 2048
  else bif k == 4 then sgn (w / 2147483648 % 2 * 4096 + w / 33554432 % 64 * 32 + w / 256 % 16 * 2 + w / 128 % 2 * 2048) 4096
  else bif k == 5 then sgn (w / 33554432 * 32 + w / 128 % 32) 2048
  else bif k == 7 then w / 1048576 % 64
  else bif k == 8 then w / 1048576 % 32
  else bif k == 9 then w / 1048576 % 256
  else 0
def asIn (op w : Int) : In := ⟨op, bif rdF (formZ op) then w / 128 % 32 else 0, bif aF (formZ op) then w / 32768 % 32 else 0, bif bF (formZ op) then w / 1048576 % 32 else 0, immD (formZ op) w,
  oF (formZ op) && w / 67108864 % 2 == 1, oF (formZ op) && w / 33554432 % 2 == 1⟩
theorem parts_j (v : Int) (h0 : -1048576 ≤ v) (h1 : v < 1048576) (h2 : v % 2 = 0) : ∃ s p q r : Int, v / 1048576 % 2 = s ∧ v / 4096 % 256 = p ∧ v / 2048 % 2 = q ∧ v / 2 % 1024 = r ∧ v = s * 1048576 + r * 2 + q * 2048 + p * 4096 - 2 * s * 1048576 ∧ 0 ≤ s ∧ s < 2 ∧ 0 ≤ p ∧ p < 256 ∧ 0 ≤ q ∧ q < 2 ∧ 0 ≤ r ∧ r < 1024 :=
  ⟨_, _, _, _, rfl, rfl, rfl, rfl, by omega, by omega, by omega, by omega, by omega, by omega, by omega, by omega, by omega⟩
theorem parts_b (v : Int) (h0 : -4096 ≤ v) (h1 : v < 4096) (h2 : v % 2 = 0) : ∃ s p q r : Int, v / 4096 % 2 = s ∧ v / 2048 % 2 = q ∧ v / 32 % 64 = p ∧ v / 2 % 16 = r ∧ v = s * 4096 + p * 32 + r * 2 + q * 2048 - 2 * s * 4096 ∧ 0 ≤ s ∧ s < 2 ∧ 0 ≤ p ∧ p < 64 ∧ 0 ≤ q ∧ q < 2 ∧ 0 ≤ r ∧ r < 16 :=
  ⟨_, _, _, _, rfl, rfl, rfl, rfl, by omega, by omega, by omega, by omega, by omega, by omega, by omega, by omega, by omega⟩
theorem parts_s (v : Int) (h0 : -2048 ≤ v) (h1 : v < 2048) : ∃ s p q : Int, v / 32 % 128 = s * 64 + p ∧ v % 32 = q ∧ v = s * 2048 + p * 32 + q - 2 * s * 2048 ∧ 0 ≤ s ∧ s < 2 ∧ 0 ≤ p ∧ p < 64 ∧ 0 ≤ q ∧ q < 32 :=
  ⟨v / 32 % 128 / 64, v / 32 % 64, _, by omega, rfl, by omega, by omega, by omega, by omega, by omega, by omega, by omega⟩
theorem parts_i (v : Int) (h0 : -2048 ≤ v) (h1 : v < 2048) : ∃ s p : Int, v % 4096 = s * 2048 + p ∧ v = s * 2048 + p - 2 * s * 2048 ∧ 0 ≤ s ∧ s < 2 ∧ 0 ≤ p ∧ p < 2048 :=
  ⟨v % 4096 / 2048, v % 2048, by omega, by omega, by omega, by omega, by omega, by omega⟩
theorem parts_u (v : Int) (h0 : -524288 ≤ v) (h1 : v < 524288) : ∃ s p : Int, v % 1048576 = s * 524288 + p ∧ v = s * 524288 + p - 2 * s * 524288 ∧ 0 ≤ s ∧ s < 2 ∧ 0 ≤ p ∧ p < 524288 :=
  ⟨v % 1048576 / 524288, v % 524288, by omega, by omega, by omega, by omega, by omega, by omega⟩
theorem b01_eq (b : Bool) : (b01 b == 1) = b := by cases b <;> rfl
theorem parts_w (W : Int) (h0 : 0 ≤ W) (h1 : W < 32768) (h2 : W / 128 % 32 = 0) : ∃ o f : Int, W = o + f * 4096 ∧ 0 ≤ o ∧ o < 128 ∧ 0 ≤ f ∧ f < 8 :=
  ⟨W % 128, W / 4096, by omega, by omega, by omega, by omega, by omega⟩
theorem parts_w2 (W : Int) (m p : Int) (h0 : 0 ≤ W) (h1 : W < 4294967296) (h2 : W / 128 % 32 = 0) (hm : m = 1024 ∧ p = 33554432 ∨ m = 2048 ∧ p = 67108864 ∨ m = 4096 ∧ p = 134217728) (h3 : W / 32768 % m = 0) : ∃ o f g : Int, W = o + f * 4096 + g * p ∧ 0 ≤ o ∧ o < 128 ∧ 0 ≤ f ∧ f < 8 ∧ 0 ≤ g ∧ g * p < 4294967296 := by
  rcases hm with ⟨rfl, rfl⟩ | ⟨rfl, rfl⟩ | ⟨rfl, rfl⟩
  · exact ⟨W % 128, W / 4096 % 8, W / 33554432, by omega, by omega, by omega, by omega, by omega, by omega, by omega⟩
  · exact ⟨W % 128, W / 4096 % 8, W / 67108864, by omega, by omega, by omega, by omega, by omega, by omega, by omega⟩
  · exact ⟨W % 128, W / 4096 % 8, W / 134217728, by omega, by omega, by omega, by omega, by omega, by omega, by omega⟩
theorem form_u (E W rd v : Int) (hE : E = W + rd * 128 + v * 4096) (h0 : 0 ≤ W) (h1 : W < 128) (h2 : 0 ≤ rd) (h3 : rd ≤ 31) (h4 : 0 ≤ v) (h5 : v < 1048576) :
    (0 ≤ E ∧ E < 4294967296) ∧ E % 128 = W ∧ E / 128 % 32 = rd ∧ E / 4096 = v := ⟨⟨by omega, by omega⟩, by omega, by omega, by omega⟩
theorem form_j (E W rd s p q r : Int) (hE : E = W + rd * 128 + (s * 2147483648 + p * 4096 + q * 1048576 + r * 2097152)) (h0 : 0 ≤ W) (h1 : W < 128) (h2 : 0 ≤ rd) (h3 : rd ≤ 31)
    (s0 : 0 ≤ s) (s1 : s < 2) (p0 : 0 ≤ p) (p1 : p < 256) (q0 : 0 ≤ q) (q1 : q < 2) (r0 : 0 ≤ r) (r1 : r < 1024) :
    (0 ≤ E ∧ E < 4294967296) ∧ E % 128 = W ∧ E / 128 % 32 = rd ∧ E / 2147483648 % 2 = s ∧ E / 2097152 % 1024 = r ∧ E / 1048576 % 2 = q ∧ E / 4096 % 256 = p :=
  ⟨⟨by omega, by omega⟩, by omega, by omega, by omega, by omega, by omega, by omega⟩
theorem form_i (E o f rd a v : Int) (hE : E = o + f * 4096 + rd * 128 + a * 32768 + v * 1048576) (h0 : 0 ≤ o) (h1 : o < 128) (f0 : 0 ≤ f) (f1 : f < 8) (h2 : 0 ≤ rd) (h3 : rd ≤ 31) (a0 : 0 ≤ a) (a1 : a ≤ 31) (h4 : 0 ≤ v) (h5 : v < 4096) :
    (0 ≤ E ∧ E < 4294967296) ∧ E % 128 = o ∧ E / 4096 % 8 = f ∧ E / 128 % 32 = rd ∧ E / 32768 % 32 = a ∧ E / 1048576 = v := ⟨⟨by omega, by omega⟩, by omega, by omega, by omega, by omega, by omega⟩
theorem form_b (E o f a b s p q r : Int) (hE : E = o + f * 4096 + a * 32768 + b * 1048576 + (s * 2147483648 + q * 128 + p * 33554432 + r * 256)) (h0 : 0 ≤ o) (h1 : o < 128) (f0 : 0 ≤ f) (f1 : f < 8) (a0 : 0 ≤ a) (a1 : a ≤ 31) (b0 : 0 ≤ b) (b1 : b ≤ 31)
    (s0 : 0 ≤ s) (s1 : s < 2) (p0 : 0 ≤ p) (p1 : p < 64) (q0 : 0 ≤ q) (q1 : q < 2) (r0 : 0 ≤ r) (r1 : r < 16) :
    (0 ≤ E ∧ E < 4294967296) ∧ E % 128 = o ∧ E / 4096 % 8 = f ∧ E / 32768 % 32 = a ∧ E / 1048576 % 32 = b ∧ E / 2147483648 % 2 = s ∧ E / 33554432 % 64 = p ∧ E / 256 % 16 = r ∧ E / 128 % 2 = q :=
  ⟨⟨by omega, by omega⟩, by omega, by omega, by omega, by omega, by omega, by omega, by omega, by omega⟩
theorem form_s (E o f a b p q : Int) (hE : E = o + f * 4096 + a * 32768 + b * 1048576 + (p * 33554432 + q * 128)) (h0 : 0 ≤ o) (h1 : o < 128) (f0 : 0 ≤ f) (f1 : f < 8) (a0 : 0 ≤ a) (a1 : a ≤ 31) (b0 : 0 ≤ b) (b1 : b ≤ 31)
    (p0 : 0 ≤ p) (p1 : p < 128) (q0 : 0 ≤ q) (q1 : q < 32) :
    (0 ≤ E ∧ E < 4294967296) ∧ E % 128 = o ∧ E / 4096 % 8 = f ∧ E / 32768 % 32 = a ∧ E / 1048576 % 32 = b ∧ E / 33554432 = p ∧ E / 128 % 32 = q :=
  ⟨⟨by omega, by omega⟩, by omega, by omega, by omega, by omega, by omega, by omega⟩
theorem form_r (E o f g rd a b : Int) (hE : E = o + f * 4096 + g * 33554432 + rd * 128 + a * 32768 + b * 1048576) (h0 : 0 ≤ o) (h1 : o < 128) (f0 : 0 ≤ f) (f1 : f < 8) (g0 : 0 ≤ g) (g1 : g * 33554432 < 4294967296) (h2 : 0 ≤ rd) (h3 : rd ≤ 31) (a0 : 0 ≤ a) (a1 : a ≤ 31) (b0 : 0 ≤ b) (b1 : b ≤ 31) :
    (0 ≤ E ∧ E < 4294967296) ∧ E % 128 = o ∧ E / 4096 % 8 = f ∧ E / 33554432 = g ∧ E / 128 % 32 = rd ∧ E / 32768 % 32 = a ∧ E / 1048576 % 32 = b :=
  ⟨⟨by omega, by omega⟩, by omega, by omega, by omega, by omega, by omega, by omega⟩
theorem form_h (E o f g rd a v : Int) (hE : E = o + f * 4096 + g * 67108864 + rd * 128 + a * 32768 + v * 1048576) (h0 : 0 ≤ o) (h1 : o < 128) (f0 : 0 ≤ f) (f1 : f < 8) (g0 : 0 ≤ g) (g1 : g * 67108864 < 4294967296) (h2 : 0 ≤ rd) (h3 : rd ≤ 31) (a0 : 0 ≤ a) (a1 : a ≤ 31) (b0 : 0 ≤ v) (b1 : v < 64) :
    (0 ≤ E ∧ E < 4294967296) ∧ E % 128 = o ∧ E / 4096 % 8 = f ∧ E / 67108864 = g ∧ E / 128 % 32 = rd ∧ E / 32768 % 32 = a ∧ E / 1048576 % 64 = v :=
  ⟨⟨by omega, by omega⟩, by omega, by omega, by omega, by omega, by omega, by omega⟩
theorem form_a (E o f g rd a b x y : Int) (hE : E = o + f * 4096 + g * 134217728 + rd * 128 + a * 32768 + b * 1048576 + x * 67108864 + y * 33554432) (h0 : 0 ≤ o) (h1 : o < 128) (f0 : 0 ≤ f) (f1 : f < 8) (g0 : 0 ≤ g) (g1 : g * 134217728 < 4294967296) (h2 : 0 ≤ rd) (h3 : rd ≤ 31) (a0 : 0 ≤ a) (a1 : a ≤ 31) (b0 : 0 ≤ b) (b1 : b ≤ 31)
    (x0 : 0 ≤ x) (x1 : x < 2) (y0 : 0 ≤ y) (y1 : y < 2) :
    (0 ≤ E ∧ E < 4294967296) ∧ E % 128 = o ∧ E / 4096 % 8 = f ∧ E / 134217728 = g ∧ E / 128 % 32 = rd ∧ E / 32768 % 32 = a ∧ E / 1048576 % 32 = b ∧ E / 67108864 % 2 = x ∧ E / 33554432 % 2 = y :=
  ⟨⟨by omega, by omega⟩, by omega, by omega, by omega, by omega, by omega, by omega, by omega, by omega⟩
def Good4 (k W rd a b imm x y E : Int) : Prop := (0 ≤ E ∧ E < 4294967296) ∧ fixZ k E = W ∧ (bif rdF k then E / 128 % 32 else 0) = rd ∧ (bif aF k then E / 32768 % 32 else 0) = a ∧ (bif bF k then E / 1048576 % 32 else 0) = b ∧ immD k E = imm ∧ (oF k = true → E / 67108864 % 2 = x ∧ E / 33554432 % 2 = y)
theorem good1 (W rd imm E : Int) (hE : E = W + rd * 128 + imm % 1048576 * 4096) (h0 : 0 ≤ W) (h1 : W < 128) (r0 : 0 ≤ rd) (r1 : rd ≤ 31) (i0 : -524288 ≤ imm) (i1 : imm < 524288) : Good4 1 W rd 0 0 imm 0 0 E := by
  obtain ⟨f0, f1, f2, f3⟩ := form_u _ W rd (imm % 1048576) hE (by omega) (by omega) r0 r1 (by omega) (by omega)
  obtain ⟨s, p, e1, e2, s0, s1, p0, p1⟩ := parts_u imm (by omega) (by omega)
  simp [Good4, fixZ, rdF, aF, bF, oF, immD, atZ, sgn]
  refine ⟨f0, f1, f2, ?_⟩
  rw [f3]
  clear f0 f1 f2 f3 hE
  split <;> omega
theorem good2 (W rd imm E : Int) (hE : E = W + rd * 128 + (imm / 1048576 % 2 * 2147483648 + imm / 4096 % 256 * 4096 + imm / 2048 % 2 * 1048576 + imm / 2 % 1024 * 2097152)) (h0 : 0 ≤ W) (h1 : W < 128) (r0 : 0 ≤ rd) (r1 : rd ≤ 31) (i0 : -1048576 ≤ imm) (i1 : imm < 1048576) (i2 : imm % 2 = 0) : Good4 2 W rd 0 0 imm 0 0 E := by
  obtain ⟨s, p, q, r, e1, e2, e3, e4, e5, s0, s1, p0, p1, q0, q1, r0', r1'⟩ := parts_j imm i0 i1 i2
  rw [e1, e2, e3, e4] at hE
  obtain ⟨f0, f1, f2, f3, f4, f5, f6⟩ := form_j _ W rd s p q r hE h0 h1 r0 r1 s0 s1 p0 p1 q0 q1 r0' r1'
  simp [Good4, fixZ, rdF, aF, bF, oF, immD, atZ, sgn]
  refine ⟨f0, f1, f2, ?_⟩
  rw [f3, f4, f5, f6]
  clear f0 f1 f2 f3 f4 f5 f6 e1 e2 e3 e4 hE i0 i1 i2
  split <;> omega
theorem good3 (W rd a imm E : Int) (hE : E = W + rd * 128 + a * 32768 + imm % 4096 * 1048576) (h0 : 0 ≤ W) (h1 : W < 32768) (h2 : W / 128 % 32 = 0) (r0 : 0 ≤ rd) (r1 : rd ≤ 31) (a0 : 0 ≤ a) (a1 : a ≤ 31) (i0 : -2048 ≤ imm) (i1 : imm < 2048) : Good4 3 W rd a 0 imm 0 0 E := by
  obtain ⟨s, p, e1, e2, s0, s1, p0, p1⟩ := parts_i imm i0 i1
  obtain ⟨o, f, rfl, o0, o1, g0, g1⟩ := parts_w W h0 h1 h2
  obtain ⟨f0, f1, f2, f3, f4, f5⟩ := form_i _ o f rd a (imm % 4096) hE o0 o1 g0 g1 r0 r1 a0 a1 (by omega) (by omega)
  simp [Good4, fixZ, rdF, aF, bF, oF, immD, atZ, sgn]
  refine ⟨f0, by rw [f1, f2], f3, f4, ?_⟩
  rw [f5]
  clear f0 f1 f2 f3 f4 f5 hE h0 h1 h2
  split <;> omega
theorem good4 (W a b imm E : Int) (hE : E = W + a * 32768 + b * 1048576 + (imm / 4096 % 2 * 2147483648 + imm / 2048 % 2 * 128 + imm / 32 % 64 * 33554432 + imm / 2 % 16 * 256)) (h0 : 0 ≤ W) (h1 : W < 32768) (h2 : W / 128 % 32 = 0) (a0 : 0 ≤ a) (a1 : a ≤ 31) (b0 : 0 ≤ b) (b1 : b ≤ 31) (i0 : -4096 ≤ imm) (i1 : imm < 4096) (i2 : imm % 2 = 0) : Good4 4 W 0 a b imm 0 0 E := by
  obtain ⟨s, p, q, r, e1, e2, e3, e4, e5, s0, s1, p0, p1, q0, q1, r0', r1'⟩ := parts_b imm i0 i1 i2
  obtain ⟨o, f, rfl, o0, o1, g0, g1⟩ := parts_w W h0 h1 h2
  rw [e1, e2, e3, e4] at hE
  obtain ⟨f0, f1, f2, f3, f4, f5, f6, f7, f8⟩ := form_b _ o f a b s p q r hE o0 o1 g0 g1 a0 a1 b0 b1 s0 s1 p0 p1 q0 q1 r0' r1'
  simp [Good4, fixZ, rdF, aF, bF, oF, immD, atZ, sgn]
  refine ⟨f0, by rw [f1, f2], f3, f4, ?_⟩
  rw [f5, f6, f7, f8]
  clear f0 f1 f2 f3 f4 f5 f6 f7 f8 e1 e2 e3 e4 hE h0 h1 h2 i0 i1 i2
  split <;> omega
theorem good5 (W a b imm E : Int) (hE : E = W + a * 32768 + b * 1048576 + (imm / 32 % 128 * 33554432 + imm % 32 * 128)) (h0 : 0 ≤ W) (h1 : W < 32768) (h2 : W / 128 % 32 = 0) (a0 : 0 ≤ a) (a1 : a ≤ 31) (b0 : 0 ≤ b) (b1 : b ≤ 31) (i0 : -2048 ≤ imm) (i1 : imm < 2048) : Good4 5 W 0 a b imm 0 0 E := by
  obtain ⟨s, p, q, e1, e2, e5, s0, s1, p0, p1, q0, q1⟩ := parts_s imm i0 i1
  obtain ⟨o, f, rfl, o0, o1, g0, g1⟩ := parts_w W h0 h1 h2
  obtain ⟨f0, f1, f2, f3, f4, f5, f6⟩ := form_s _ o f a b (imm / 32 % 128) (imm % 32) hE o0 o1 g0 g1 a0 a1 b0 b1 (by omega) (by omega) (by omega) (by omega)
  simp [Good4, fixZ, rdF, aF, bF, oF, immD, atZ, sgn]
  refine ⟨f0, by rw [f1, f2], f3, f4, ?_⟩
  rw [f5, f6]
  clear f0 f1 f2 f3 f4 f5 f6 hE h0 h1 h2
  split <;> omega
theorem good6 (W rd a b E : Int) (hE : E = W + rd * 128 + a * 32768 + b * 1048576) (h0 : 0 ≤ W) (h1 : W < 4294967296) (h2 : W / 128 % 32 = 0) (h3 : W / 32768 % 1024 = 0) (r0 : 0 ≤ rd) (r1 : rd ≤ 31) (a0 : 0 ≤ a) (a1 : a ≤ 31) (b0 : 0 ≤ b) (b1 : b ≤ 31) : Good4 6 W rd a b 0 0 0 E := by
  obtain ⟨o, f, g, rfl, o0, o1, g0, g1, g2, g3⟩ := parts_w2 W 1024 33554432 h0 h1 h2 (by omega) h3
  obtain ⟨f0, f1, f2, f3, f4, f5, f6⟩ := form_r _ o f g rd a b hE o0 o1 g0 g1 g2 g3 r0 r1 a0 a1 b0 b1
  simp [Good4, fixZ, rdF, aF, bF, oF, immD, atZ, sgn]
  exact ⟨f0, by rw [f1, f2, f3], f4, f5, f6⟩
theorem good7 (W rd a imm E : Int) (hE : E = W + rd * 128 + a * 32768 + imm % 64 * 1048576) (h0 : 0 ≤ W) (h1 : W < 4294967296) (h2 : W / 128 % 32 = 0) (h3 : W / 32768 % 2048 = 0) (r0 : 0 ≤ rd) (r1 : rd ≤ 31) (a0 : 0 ≤ a) (a1 : a ≤ 31) (i0 : 0 ≤ imm) (i1 : imm < 64) : Good4 7 W rd a 0 imm 0 0 E := by
  obtain ⟨o, f, g, rfl, o0, o1, g0, g1, g2, g3⟩ := parts_w2 W 2048 67108864 h0 h1 h2 (by omega) h3
  obtain ⟨f0, f1, f2, f3, f4, f5, f6⟩ := form_h _ o f g rd a (imm % 64) hE o0 o1 g0 g1 g2 g3 r0 r1 a0 a1 (by omega) (by omega)
  simp [Good4, fixZ, rdF, aF, bF, oF, immD, atZ, sgn]
  exact ⟨f0, by rw [f1, f2, f3], f4, f5, by rw [f6]; omega⟩
theorem good8 (W rd a imm E : Int) (hE : E = W + rd * 128 + a * 32768 + imm % 32 * 1048576) (h0 : 0 ≤ W) (h1 : W < 4294967296) (h2 : W / 128 % 32 = 0) (h3 : W / 32768 % 1024 = 0) (r0 : 0 ≤ rd) (r1 : rd ≤ 31) (a0 : 0 ≤ a) (a1 : a ≤ 31) (i0 : 0 ≤ imm) (i1 : imm < 32) : Good4 8 W rd a 0 imm 0 0 E := by
  obtain ⟨o, f, g, rfl, o0, o1, g0, g1, g2, g3⟩ := parts_w2 W 1024 33554432 h0 h1 h2 (by omega) h3
  obtain ⟨f0, f1, f2, f3, f4, f5, f6⟩ := form_r _ o f g rd a (imm % 32) hE o0 o1 g0 g1 g2 g3 r0 r1 a0 a1 (by omega) (by omega)
  simp [Good4, fixZ, rdF, aF, bF, oF, immD, atZ, sgn]
  exact ⟨f0, by rw [f1, f2, f3], f4, f5, by rw [f6]; omega⟩
theorem good9 (imm E : Int) (hE : E = 15 + imm % 256 * 1048576) (i0 : 0 ≤ imm) (i1 : imm < 256) : Good4 9 15 0 0 0 imm 0 0 E := by
  simp [Good4, fixZ, rdF, aF, bF, oF, immD, atZ, sgn]
  exact ⟨by omega, by omega, by omega⟩
theorem good10 (W rd a x y E : Int) (hE : E = W + rd * 128 + a * 32768 + x * 67108864 + y * 33554432) (h0 : 0 ≤ W) (h1 : W < 4294967296) (h2 : W / 128 % 32 = 0) (h3 : W / 32768 % 4096 = 0) (r0 : 0 ≤ rd) (r1 : rd ≤ 31) (a0 : 0 ≤ a) (a1 : a ≤ 31) (x0 : x = 0 ∨ x = 1) (y0 : y = 0 ∨ y = 1) : Good4 10 W rd a 0 0 x y E := by
  obtain ⟨o, f, g, rfl, o0, o1, g0, g1, g2, g3⟩ := parts_w2 W 4096 134217728 h0 h1 h2 (by omega) h3
  obtain ⟨f0, f1, f2, f3, f4, f5, f6, f7, f8⟩ := form_a E o f g rd a 0 x y (by rw [hE, Int.zero_mul, Int.add_zero]) o0 o1 g0 g1 g2 g3 r0 r1 a0 a1 (by omega) (by omega) (by omega) (by omega) (by omega) (by omega)
  simp [Good4, fixZ, rdF, aF, bF, oF, immD, atZ, sgn]
  exact ⟨f0, by rw [f1, f2, f3, f6, Int.zero_mul, Int.add_zero], f4, f5, f7, f8⟩
theorem good11 (W rd a b x y E : Int) (hE : E = W + rd * 128 + a * 32768 + b * 1048576 + x * 67108864 + y * 33554432) (h0 : 0 ≤ W) (h1 : W < 4294967296) (h2 : W / 128 % 32 = 0) (h3 : W / 32768 % 4096 = 0) (r0 : 0 ≤ rd) (r1 : rd ≤ 31) (a0 : 0 ≤ a) (a1 : a ≤ 31) (b0 : 0 ≤ b) (b1 : b ≤ 31) (x0 : x = 0 ∨ x = 1) (y0 : y = 0 ∨ y = 1) : Good4 11 W rd a b 0 x y E := by
  obtain ⟨o, f, g, rfl, o0, o1, g0, g1, g2, g3⟩ := parts_w2 W 4096 134217728 h0 h1 h2 (by omega) h3
  obtain ⟨f0, f1, f2, f3, f4, f5, f6, f7, f8⟩ := form_a _ o f g rd a b x y hE o0 o1 g0 g1 g2 g3 r0 r1 a0 a1 b0 b1 (by omega) (by omega) (by omega) (by omega)
  simp [Good4, fixZ, rdF, aF, bF, oF, immD, atZ, sgn]
  exact ⟨f0, by rw [f1, f2, f3], f4, f5, f6, f7, f8⟩
theorem enc_good {i : In} (h : mayB i = true) : Good4 (formZ i.op) (wordZ i.op) i.rd i.a i.b i.imm (b01 i.aq) (b01 i.rl) (encZ i) := by
  have hk := form_rng (may_ok h)
  have F := may_fld h
  have hI := imm_rng F.im hk.1 hk.2
  obtain ⟨r0, r1, rn, a0, a1, an, b0, b1, bn, _, on, wd⟩ := F
  obtain ⟨op, rd, a, b, imm, aq, rl⟩ := i
  have hk' : formZ op = 0 ∨ formZ op = 1 ∨ formZ op = 2 ∨ formZ op = 3 ∨ formZ op = 4 ∨ formZ op = 5 ∨ formZ op = 6 ∨ formZ op = 7 ∨ formZ op = 8 ∨ formZ op = 9 ∨ formZ op = 10 ∨ formZ op = 11 := by simp at hk; omega
  have q0 := b01_cases aq
  have q1 := b01_cases rl
  unfold encZ
  simp only at *
  clear h
  generalize wordZ op = W at *
  unfold immRg at hI
  generalize formZ op = k at *
  rcases hk' with rfl | rfl | rfl | rfl | rfl | rfl | rfl | rfl | rfl | rfl | rfl | rfl
  all_goals
    simp [wordOk] at wd hI
    simp [rdF, aF, bF, oF, atZ] at rn an bn on
  · obtain ⟨rfl, rfl⟩ := on
    subst rn an bn hI
    simp [Good4, fixZ, rdF, aF, bF, oF, immD, immZ, atZ, b01]
    exact wd
  · obtain ⟨rfl, rfl⟩ := on
    subst an bn
    exact good1 W rd imm _ (by simp [immZ, b01]) (by omega) (by omega) r0 r1 (by omega) (by omega)
  · obtain ⟨rfl, rfl⟩ := on
    subst an bn
    exact good2 W rd imm _ (by simp [immZ, b01]) (by omega) (by omega) r0 r1 (by omega) (by omega) (by omega)
  · obtain ⟨rfl, rfl⟩ := on
    subst bn
    exact good3 W rd a imm _ (by simp [immZ, b01]) (by omega) (by omega) (by omega) r0 r1 a0 a1 (by omega) (by omega)
  · obtain ⟨rfl, rfl⟩ := on
    subst rn
    exact good4 W a b imm _ (by simp [immZ, b01]) (by omega) (by omega) (by omega) a0 a1 b0 b1 (by omega) (by omega) (by omega)
  · obtain ⟨rfl, rfl⟩ := on
    subst rn
    exact good5 W a b imm _ (by simp [immZ, b01]) (by omega) (by omega) (by omega) a0 a1 b0 b1 (by omega) (by omega)
  · obtain ⟨rfl, rfl⟩ := on
    subst hI
    exact good6 W rd a b _ (by simp [immZ, b01]) (by omega) (by omega) (by omega) (by omega) r0 r1 a0 a1 b0 b1
  · obtain ⟨rfl, rfl⟩ := on
    subst bn
    exact good7 W rd a imm _ (by simp [immZ, b01]) (by omega) (by omega) (by omega) (by omega) r0 r1 a0 a1 (by omega) (by omega)
  · obtain ⟨rfl, rfl⟩ := on
    subst bn
    exact good8 W rd a imm _ (by simp [immZ, b01]) (by omega) (by omega) (by omega) (by omega) r0 r1 a0 a1 (by omega) (by omega)
  · obtain ⟨rfl, rfl⟩ := on
    obtain rfl : W = 15 := wd.2
    subst rn an bn
    exact good9 imm _ (by simp [immZ, b01]) (by omega) (by omega)
  · subst bn hI
    exact good10 W rd a _ _ _ (by simp [immZ]) (by omega) (by omega) (by omega) (by omega) r0 r1 a0 a1 q0 q1
  · subst hI
    exact good11 W rd a b _ _ _ (by simp [immZ]) (by omega) (by omega) (by omega) (by omega) r0 r1 a0 a1 b0 b1 q0 q1
theorem enc_rng {i : In} (h : mayB i = true) : 0 ≤ encZ i ∧ encZ i < 4294967296 := (enc_good h).1
theorem enc_fix {i : In} (h : mayB i = true) : fixZ (formZ i.op) (encZ i) = wordZ i.op := (enc_good h).2.1
theorem enc_as {i : In} (h : mayB i = true) : asIn i.op (encZ i) = i := by
  obtain ⟨_, _, h1, h2, h3, h4, h5⟩ := enc_good h
  have hn := (may_fld h).aq
  have e1 := b01_eq i.aq
  have e2 := b01_eq i.rl
  unfold asIn
  rw [h1, h2, h3, h4]
  cases ho : oF (formZ i.op)
  · obtain ⟨n1, n2⟩ := hn ho
    obtain ⟨op, rd, a, b, imm, aq, rl⟩ := i
    simp at n1 n2 ⊢
    exact ⟨n1, n2⟩
  · obtain ⟨n1, n2⟩ := h5 ho
    rw [n1, n2, e1, e2]; rfl
def has3 (k : Int) : Bool := !(k == 1 || k == 2)
def has25 (k : Int) : Bool := k == 6 || k == 8 || k == 0
def has26 (k : Int) : Bool := has25 k || k == 7
def has27 (k : Int) : Bool := has26 k || k == 10 || k == 11
def hasB5 (k : Int) : Bool := k == 10 || k == 0
def part3 (w : Int) : Int := w / 4096 % 8
def agreeB (k j v w : Int) : Bool :=
  v % 128 == w % 128 && (!(has3 k && has3 j) || part3 v == part3 w) && (!(has25 k && has25 j) || v / 33554432 == w / 33554432) && (!(has26 k && has26 j) || v / 67108864 == w / 67108864) && (!(has27 k && has27 j) || v / 134217728 == w / 134217728)
    && (!(hasB5 k && hasB5 j) || v / 1048576 % 32 == w / 1048576 % 32)
theorem agree_all : ∀ m n : Fin 88, m.val = 0 ∨ n.val = 0 ∨ m = n ∨ agreeB (formZ m.val) (formZ n.val) (wordZ m.val) (wordZ n.val) = false := by decide +kernel
theorem fix_parts {k w W : Int} (h0 : 0 ≤ k) (h1 : k ≤ 11) (h : fixZ k w = W) : w % 128 = W % 128 ∧ (has3 k = true → part3 w = part3 W) ∧ (has25 k = true → w / 33554432 = W / 33554432) ∧ (has26 k = true → w / 67108864 = W / 67108864) ∧ (has27 k = true → w / 134217728 = W / 134217728) ∧ (hasB5 k = true → w / 1048576 % 32 = W / 1048576 % 32) := by
  have hk : k = 0 ∨ k = 1 ∨ k = 2 ∨ k = 3 ∨ k = 4 ∨ k = 5 ∨ k = 6 ∨ k = 7 ∨ k = 8 ∨ k = 9 ∨ k = 10 ∨ k = 11 := by omega
  rcases hk with rfl | rfl | rfl | rfl | rfl | rfl | rfl | rfl | rfl | rfl | rfl | rfl
  all_goals
    simp [fixZ] at h
    subst h
    simp [has3, has25, has26, has27, hasB5, part3]
  all_goals omega
theorem fix_one {m n w : Int} (hm : okB m = true) (hn : okB n = true) (h1 : fixZ (formZ m) w = wordZ m) (h2 : fixZ (formZ n) w = wordZ n) : m = n := by
  obtain ⟨f0, f1⟩ := form_rng hm
  obtain ⟨g0, g1⟩ := form_rng hn
  obtain ⟨a1, a2, a3, a4, a5, a6⟩ := fix_parts f0 f1 h1
  obtain ⟨b1, b2, b3, b4, b5, b6⟩ := fix_parts g0 g1 h2
  have hag : agreeB (formZ m) (formZ n) (wordZ m) (wordZ n) = true := by
    have ex : ∀ (p q : Bool) (x y : Int), (p = true → q = true → x = y) → (!(p && q) || x == y) = true := fun p q x y h => by
      cases p <;> cases q <;> simp
      exact h rfl rfl
    unfold agreeB
    simp only [Bool.and_eq_true]
    exact ⟨⟨⟨⟨⟨by simp; omega, ex _ _ _ _ fun p q => (a2 p).symm.trans (b2 q)⟩, ex _ _ _ _ fun p q => (a3 p).symm.trans (b3 q)⟩, ex _ _ _ _ fun p q => (a4 p).symm.trans (b4 q)⟩, ex _ _ _ _ fun p q => (a5 p).symm.trans (b5 q)⟩, ex _ _ _ _ fun p q => (a6 p).symm.trans (b6 q)⟩
  rcases op_cases m with ⟨m, m1, m2, rfl⟩ | h
  · rcases op_cases n with ⟨n, n1, n2, rfl⟩ | h
    · rcases agree_all ⟨m, m2⟩ ⟨n, n2⟩ with h | h | h | h
      · simp at h; omega
      · simp at h; omega
      · simp at h; omega
      · rw [hag] at h; cases h
    · rw [okB_out h] at hn; cases hn
  · rw [okB_out h] at hm; cases hm
theorem enc_inj {i k : In} (hi : mayB i = true) (hk : mayB k = true) (h : encZ i = encZ k) : i = k := by
  have e : i.op = k.op := fix_one (may_ok hi) (may_ok hk) (enc_fix hi) (by rw [h]; exact enc_fix hk)
  rw [← enc_as hi, ← enc_as hk, h, e]
end Go.Proofs.YtiajbijbhhpllaaDoor
namespace Go.Proofs.YtiajbijbhhpllaaDoor
open Go.RowKit Sim
theorem putZ_ex : ∃ f : Int → Int → Int → Int → Int, ∀ x a n v, f x a n v = ((putF x.toNat a.toNat n.toNat v.toNat % 4294967296 : Nat) : Int) := ⟨_, fun _ _ _ _ => rfl⟩
noncomputable def putZ : Int → Int → Int → Int → Int := Classical.choose putZ_ex
theorem putZ_eq (x a n v : Int) : putZ x a n v = ((putF x.toNat a.toNat n.toNat v.toNat % 4294967296 : Nat) : Int) := Classical.choose_spec putZ_ex x a n v
def u32B (x : Int) : Bool := decide (0 ≤ x ∧ x < 4294967296)
def putC (x a n v : Int) : Bool := u32B x && u32B v && decide (1 ≤ n ∧ 0 ≤ a ∧ a + n ≤ 32)
theorem Ret.of_qt {P : Program} {k : FuncId} {args : Array Value} {v : Value} {w : World} (h : Calls P k args w (Qt w v)) : Ret P k args v w := h.mono fun _ _ ⟨he, m, hm⟩ => ⟨he, hm ▸ below_draws (Below.refl _ _) m⟩
noncomputable def decPut : List Value → Option (Value × Bool)
  | [.int .u32 x, .int .i64 a, .int .i64 n, .int .u32 v] => some (.tuple #[.int .u32 (putZ x a n v), .int .i64 0], pre (putC x a n v))
  | _ => none
noncomputable def pPut : PTab := prowD 96 decPut
theorem pPut_ok {gl : Gl} : PTabOk Tryd.prog gl pPut := .rowD fun args u hd w hG => by
  unfold decPut at hd
  split at hd
  · rename_i x a n v
    simp only [Option.some.injEq, Prod.mk.injEq, pre] at hd
    obtain ⟨rfl, hc⟩ := hd
    simp [putC, u32B] at hc
    obtain ⟨⟨⟨x0, x1⟩, v0, v1⟩, n0, a0, a1⟩ := hc
    obtain ⟨x, rfl⟩ := Int.eq_ofNat_of_zero_le x0
    obtain ⟨a, rfl⟩ := Int.eq_ofNat_of_zero_le a0
    obtain ⟨n, rfl⟩ := Int.eq_ofNat_of_zero_le (show 0 ≤ n by omega)
    obtain ⟨v, rfl⟩ := Int.eq_ofNat_of_zero_le v0
    have hl := putF_lt x a n v (by omega) (by omega)
    refine (Ret.of_qt (put_yes x a n v w (by omega) (by omega) (by omega) (by omega) (by omega))).of_eq ?_
    rw [putZ_eq, Int.toNat_natCast, Int.toNat_natCast, Int.toNat_natCast, Int.toNat_natCast, Nat.mod_eq_of_lt hl]
  · cases hd
theorem u32B_wrap (x : Int) : u32B (IntKind.u32.wrap x) = true := by unfold u32B; rw [IntKind.wrap_u32]; simp; omega
theorem u32B_put (x a n v : Int) : u32B (putZ x a n v) = true := by
  unfold u32B
  rw [putZ_eq]
  simp; omega
theorem putC_put (x a n v b m u : Int) : putC (putZ x a n v) b m (IntKind.u32.wrap u) = decide (1 ≤ m ∧ 0 ≤ b ∧ b + m ≤ 32) := by
  unfold putC
  rw [u32B_wrap, u32B_put]; rfl
theorem putC_word {op b m u : Int} (ho : okB op = true) (h : decide (1 ≤ m ∧ 0 ≤ b ∧ b + m ≤ 32) = true) : putC (wordZ op) b m (IntKind.u32.wrap u) = true := by
  have := wordOk_of ho
  unfold wordOk at this
  simp only [Bool.and_eq_true] at this
  unfold putC
  rw [u32B_wrap, show u32B (wordZ op) = true from this.1]
  simpa using h
theorem bit_ret {gl : Gl} (b : Bool) (w : World) (hG : GlobOk gl w) : Ret Tryd.prog 98 #[.bool b] (.int .i64 (b01 b)) w := by
  cases b
  · exact ret (TabOk.none _ _) (fuel := 1000) [] [] (v := .int .i64 0) [] (by kernel_rfl) (fun _ h => by cases h) w hG
  · exact ret (TabOk.none _ _) (fuel := 1000) [] [] (v := .int .i64 1) [] (by kernel_rfl) (fun _ h => by cases h) w hG
def decB : List Value → Option Bool
  | [.bool b] => some b
  | _ => none
def tBit : Tab := row 98 decB fun b => .int .i64 (b01 b)
theorem tBit_ok {gl : Gl} : TabOk Tryd.prog gl tBit := tabV (enc := fun b => .bool b) (fun l a h => by unfold decB at h; split at h <;> simp at h; subst h; rfl) fun b w hG => bit_ret b w hG
def fieldL : List Int := [7, 5, 0, 15, 5, 0, 20, 5, 0, 26, 1, 0, 25, 1, 0, 12, 20, 0, 31, 1, 20, 12, 8, 12, 20, 1, 11, 21, 10, 1, 20, 12, 0, 31, 1, 12, 7, 1, 11, 25, 6, 5, 8, 4, 1, 25, 7, 5, 7, 5, 0, 20, 6, 0, 20, 5, 0, 20, 8, 0]
def encGl : Gl := fun g => bif Nat.beq g 12 then some ((wordL.take 77).map fun x => .int .u32 x) else bif Nat.beq g 11 then some (fieldL.map fun x => .int .i64 x) else none
theorem operation_in : (List.range 88).all (runs { P := Tryd.prog, glob := encGl, call := noT } 1000 95 (fun n => [.int .i64 n]) fun n => .int .u32 (wordZ n)) = true := by kernel_rfl
def pOper : PTab := prow 95 decI (fun x => .int .u32 (wordZ x)) okB
theorem pOper_ok : PTabOk Tryd.prog encGl pOper := .row (enc := fun x => [.int .i64 x]) (fun l a h => decI_eq h) fun x hc w hG => by
  rcases op_cases x with ⟨n, h1, h2, rfl⟩ | h
  · exact runs_ret (TabOk.none _ _) operation_in n h2 w hG
  · rw [okB_out h] at hc; cases hc
def tEncC : Tab := orT tForm tBit
theorem tEncC_ok : TabOk Tryd.prog encGl tEncC := tForm_ok.or tBit_ok
noncomputable def pEncC : PTab := orP pPut pOper
theorem pEncC_ok : PTabOk Tryd.prog encGl pEncC := pPut_ok.or pOper_ok
def wr (x : Int) : Int := IntKind.u32.wrap x
noncomputable def progZ (i : In) : Int :=
  bif formZ i.op == 1 then putZ (putZ (wordZ i.op) 7 5 (wr i.rd)) 12 20 (wr i.imm)
  else bif formZ i.op == 2 then putZ (putZ (putZ (putZ (putZ (wordZ i.op) 7 5 (wr i.rd)) 31 1 (wr (i.imm.fdiv 1048576))) 12 8 (wr (i.imm.fdiv 4096))) 20 1 (wr (i.imm.fdiv 2048))) 21 10 (wr (i.imm.fdiv 2))
  else bif formZ i.op == 3 then putZ (putZ (putZ (wordZ i.op) 7 5 (wr i.rd)) 15 5 (wr i.a)) 20 12 (wr i.imm)
  else bif formZ i.op == 4 then putZ (putZ (putZ (putZ (putZ (putZ (wordZ i.op) 15 5 (wr i.a)) 20 5 (wr i.b)) 31 1 (wr (i.imm.fdiv 4096))) 7 1 (wr (i.imm.fdiv 2048))) 25 6 (wr (i.imm.fdiv 32))) 8 4 (wr (i.imm.fdiv 2))
  else bif formZ i.op == 5 then putZ (putZ (putZ (putZ (wordZ i.op) 15 5 (wr i.a)) 20 5 (wr i.b)) 25 7 (wr (i.imm.fdiv 32))) 7 5 (wr i.imm)
  else bif formZ i.op == 6 then putZ (putZ (putZ (wordZ i.op) 7 5 (wr i.rd)) 15 5 (wr i.a)) 20 5 (wr i.b)
  else bif formZ i.op == 7 then putZ (putZ (putZ (wordZ i.op) 7 5 (wr i.rd)) 15 5 (wr i.a)) 20 6 (wr i.imm)
  else bif formZ i.op == 8 then putZ (putZ (putZ (wordZ i.op) 7 5 (wr i.rd)) 15 5 (wr i.a)) 20 5 (wr i.imm)
  else bif formZ i.op == 9 then putZ (wordZ i.op) 20 8 (wr i.imm)
  else bif formZ i.op == 10 then putZ (putZ (putZ (putZ (wordZ i.op) 7 5 (wr i.rd)) 15 5 (wr i.a)) 26 1 (wr (b01 i.aq))) 25 1 (wr (b01 i.rl))
  else bif formZ i.op == 11 then putZ (putZ (putZ (putZ (putZ (wordZ i.op) 7 5 (wr i.rd)) 15 5 (wr i.a)) 20 5 (wr i.b)) 26 1 (wr (b01 i.aq))) 25 1 (wr (b01 i.rl))
  else wordZ i.op
set_option maxRecDepth 100000 in
theorem encode_prog (i : In) (hm : okB i.op = true) (w : World) (hG : GlobOk encGl w) : Ret Tryd.prog 84 #[inV i] (.int .u32 (progZ i)) w := by
  rcases Bool.eq_false_or_eq_true (formZ i.op == 1) with h0 | h0
  · exact (retP tEncC_ok pEncC_ok (fuel := 1000) OIn [true] (v := .int .u32 (putZ (putZ (wordZ i.op) 7 5 (IntKind.u32.wrap (i.rd.fdiv 1))) 12 20 (IntKind.u32.wrap (i.imm.fdiv 1)))) [(pre (putC (putZ (wordZ i.op) 7 5 (IntKind.u32.wrap (i.rd.fdiv 1))) 12 20 (IntKind.u32.wrap (i.imm.fdiv 1))), true), (pre (putC (wordZ i.op) 7 5 (IntKind.u32.wrap (i.rd.fdiv 1))), true), (pre (okB i.op), true), (formZ i.op == 1, true)] (by kernel_rfl) (by simp [pre, putC_put, putC_word, hm, hm, h0]) w hG).of_eq (by first | (simp only [progZ, wr, Int.fdiv_one, pre, putC_put, putC_word, hm, hm, h0]; rfl) | simp [progZ, wr, Int.fdiv_one, pre, putC_put, putC_word, hm, hm, h0])
  · rcases Bool.eq_false_or_eq_true (formZ i.op == 2) with h1 | h1
    · exact (retP tEncC_ok pEncC_ok (fuel := 1000) OIn [false, true] (v := .int .u32 (putZ (putZ (putZ (putZ (putZ (wordZ i.op) 7 5 (IntKind.u32.wrap (i.rd.fdiv 1))) 31 1 (IntKind.u32.wrap (i.imm.fdiv 1048576))) 12 8 (IntKind.u32.wrap (i.imm.fdiv 4096))) 20 1 (IntKind.u32.wrap (i.imm.fdiv 2048))) 21 10 (IntKind.u32.wrap (i.imm.fdiv 2)))) [(pre (putC (putZ (putZ (putZ (putZ (wordZ i.op) 7 5 (IntKind.u32.wrap (i.rd.fdiv 1))) 31 1 (IntKind.u32.wrap (i.imm.fdiv 1048576))) 12 8 (IntKind.u32.wrap (i.imm.fdiv 4096))) 20 1 (IntKind.u32.wrap (i.imm.fdiv 2048))) 21 10 (IntKind.u32.wrap (i.imm.fdiv 2))), true), (pre (putC (putZ (putZ (putZ (wordZ i.op) 7 5 (IntKind.u32.wrap (i.rd.fdiv 1))) 31 1 (IntKind.u32.wrap (i.imm.fdiv 1048576))) 12 8 (IntKind.u32.wrap (i.imm.fdiv 4096))) 20 1 (IntKind.u32.wrap (i.imm.fdiv 2048))), true), (pre (putC (putZ (putZ (wordZ i.op) 7 5 (IntKind.u32.wrap (i.rd.fdiv 1))) 31 1 (IntKind.u32.wrap (i.imm.fdiv 1048576))) 12 8 (IntKind.u32.wrap (i.imm.fdiv 4096))), true), (pre (putC (putZ (wordZ i.op) 7 5 (IntKind.u32.wrap (i.rd.fdiv 1))) 31 1 (IntKind.u32.wrap (i.imm.fdiv 1048576))), true), (pre (putC (wordZ i.op) 7 5 (IntKind.u32.wrap (i.rd.fdiv 1))), true), (pre (okB i.op), true), (formZ i.op == 2, true), (formZ i.op == 1, false)] (by kernel_rfl) (by simp [pre, putC_put, putC_word, hm, hm, h0, h1]) w hG).of_eq (by first | (simp only [progZ, wr, Int.fdiv_one, pre, putC_put, putC_word, hm, hm, h0, h1]; rfl) | simp [progZ, wr, Int.fdiv_one, pre, putC_put, putC_word, hm, hm, h0, h1])
    · rcases Bool.eq_false_or_eq_true (formZ i.op == 3) with h2 | h2
      · exact (retP tEncC_ok pEncC_ok (fuel := 1000) OIn [false, false, true] (v := .int .u32 (putZ (putZ (putZ (wordZ i.op) 7 5 (IntKind.u32.wrap (i.rd.fdiv 1))) 15 5 (IntKind.u32.wrap (i.a.fdiv 1))) 20 12 (IntKind.u32.wrap (i.imm.fdiv 1)))) [(pre (putC (putZ (putZ (wordZ i.op) 7 5 (IntKind.u32.wrap (i.rd.fdiv 1))) 15 5 (IntKind.u32.wrap (i.a.fdiv 1))) 20 12 (IntKind.u32.wrap (i.imm.fdiv 1))), true), (pre (putC (putZ (wordZ i.op) 7 5 (IntKind.u32.wrap (i.rd.fdiv 1))) 15 5 (IntKind.u32.wrap (i.a.fdiv 1))), true), (pre (putC (wordZ i.op) 7 5 (IntKind.u32.wrap (i.rd.fdiv 1))), true), (pre (okB i.op), true), (formZ i.op == 3, true), (formZ i.op == 2, false), (formZ i.op == 1, false)] (by kernel_rfl) (by simp [pre, putC_put, putC_word, hm, hm, h0, h1, h2]) w hG).of_eq (by first | (simp only [progZ, wr, Int.fdiv_one, pre, putC_put, putC_word, hm, hm, h0, h1, h2]; rfl) | simp [progZ, wr, Int.fdiv_one, pre, putC_put, putC_word, hm, hm, h0, h1, h2])
      · rcases Bool.eq_false_or_eq_true (formZ i.op == 4) with h3 | h3
        · exact (retP tEncC_ok pEncC_ok (fuel := 1000) OIn [false, false, false, true] (v := .int .u32 (putZ (putZ (putZ (putZ (putZ (putZ (wordZ i.op) 15 5 (IntKind.u32.wrap (i.a.fdiv 1))) 20 5 (IntKind.u32.wrap (i.b.fdiv 1))) 31 1 (IntKind.u32.wrap (i.imm.fdiv 4096))) 7 1 (IntKind.u32.wrap (i.imm.fdiv 2048))) 25 6 (IntKind.u32.wrap (i.imm.fdiv 32))) 8 4 (IntKind.u32.wrap (i.imm.fdiv 2)))) [(pre (putC (putZ (putZ (putZ (putZ (putZ (wordZ i.op) 15 5 (IntKind.u32.wrap (i.a.fdiv 1))) 20 5 (IntKind.u32.wrap (i.b.fdiv 1))) 31 1 (IntKind.u32.wrap (i.imm.fdiv 4096))) 7 1 (IntKind.u32.wrap (i.imm.fdiv 2048))) 25 6 (IntKind.u32.wrap (i.imm.fdiv 32))) 8 4 (IntKind.u32.wrap (i.imm.fdiv 2))), true), (pre (putC (putZ (putZ (putZ (putZ (wordZ i.op) 15 5 (IntKind.u32.wrap (i.a.fdiv 1))) 20 5 (IntKind.u32.wrap (i.b.fdiv 1))) 31 1 (IntKind.u32.wrap (i.imm.fdiv 4096))) 7 1 (IntKind.u32.wrap (i.imm.fdiv 2048))) 25 6 (IntKind.u32.wrap (i.imm.fdiv 32))), true), (pre (putC (putZ (putZ (putZ (wordZ i.op) 15 5 (IntKind.u32.wrap (i.a.fdiv 1))) 20 5 (IntKind.u32.wrap (i.b.fdiv 1))) 31 1 (IntKind.u32.wrap (i.imm.fdiv 4096))) 7 1 (IntKind.u32.wrap (i.imm.fdiv 2048))), true), (pre (putC (putZ (putZ (wordZ i.op) 15 5 (IntKind.u32.wrap (i.a.fdiv 1))) 20 5 (IntKind.u32.wrap (i.b.fdiv 1))) 31 1 (IntKind.u32.wrap (i.imm.fdiv 4096))), true), (pre (putC (putZ (wordZ i.op) 15 5 (IntKind.u32.wrap (i.a.fdiv 1))) 20 5 (IntKind.u32.wrap (i.b.fdiv 1))), true), (pre (putC (wordZ i.op) 15 5 (IntKind.u32.wrap (i.a.fdiv 1))), true), (pre (okB i.op), true), (formZ i.op == 4, true), (formZ i.op == 3, false), (formZ i.op == 2, false), (formZ i.op == 1, false)] (by kernel_rfl) (by simp [pre, putC_put, putC_word, hm, hm, h0, h1, h2, h3]) w hG).of_eq (by first | (simp only [progZ, wr, Int.fdiv_one, pre, putC_put, putC_word, hm, hm, h0, h1, h2, h3]; rfl) | simp [progZ, wr, Int.fdiv_one, pre, putC_put, putC_word, hm, hm, h0, h1, h2, h3])
        · rcases Bool.eq_false_or_eq_true (formZ i.op == 5) with h4 | h4
          · exact (retP tEncC_ok pEncC_ok (fuel := 1000) OIn [false, false, false, false, true] (v := .int .u32 (putZ (putZ (putZ (putZ (wordZ i.op) 15 5 (IntKind.u32.wrap (i.a.fdiv 1))) 20 5 (IntKind.u32.wrap (i.b.fdiv 1))) 25 7 (IntKind.u32.wrap (i.imm.fdiv 32))) 7 5 (IntKind.u32.wrap (i.imm.fdiv 1)))) [(pre (putC (putZ (putZ (putZ (wordZ i.op) 15 5 (IntKind.u32.wrap (i.a.fdiv 1))) 20 5 (IntKind.u32.wrap (i.b.fdiv 1))) 25 7 (IntKind.u32.wrap (i.imm.fdiv 32))) 7 5 (IntKind.u32.wrap (i.imm.fdiv 1))), true), (pre (putC (putZ (putZ (wordZ i.op) 15 5 (IntKind.u32.wrap (i.a.fdiv 1))) 20 5 (IntKind.u32.wrap (i.b.fdiv 1))) 25 7 (IntKind.u32.wrap (i.imm.fdiv 32))), true), (pre (putC (putZ (wordZ i.op) 15 5 (IntKind.u32.wrap (i.a.fdiv 1))) 20 5 (IntKind.u32.wrap (i.b.fdiv 1))), true), (pre (putC (wordZ i.op) 15 5 (IntKind.u32.wrap (i.a.fdiv 1))), true), (pre (okB i.op), true), (formZ i.op == 5, true), (formZ i.op == 4, false), (formZ i.op == 3, false), (formZ i.op == 2, false), (formZ i.op == 1, false)] (by kernel_rfl) (by simp [pre, putC_put, putC_word, hm, hm, h0, h1, h2, h3, h4]) w hG).of_eq (by first | (simp only [progZ, wr, Int.fdiv_one, pre, putC_put, putC_word, hm, hm, h0, h1, h2, h3, h4]; rfl) | simp [progZ, wr, Int.fdiv_one, pre, putC_put, putC_word, hm, hm, h0, h1, h2, h3, h4])
          · rcases Bool.eq_false_or_eq_true (formZ i.op == 6) with h5 | h5
            · exact (retP tEncC_ok pEncC_ok (fuel := 1000) OIn [false, false, false, false, false, true] (v := .int .u32 (putZ (putZ (putZ (wordZ i.op) 7 5 (IntKind.u32.wrap (i.rd.fdiv 1))) 15 5 (IntKind.u32.wrap (i.a.fdiv 1))) 20 5 (IntKind.u32.wrap (i.b.fdiv 1)))) [(pre (putC (putZ (putZ (wordZ i.op) 7 5 (IntKind.u32.wrap (i.rd.fdiv 1))) 15 5 (IntKind.u32.wrap (i.a.fdiv 1))) 20 5 (IntKind.u32.wrap (i.b.fdiv 1))), true), (pre (putC (putZ (wordZ i.op) 7 5 (IntKind.u32.wrap (i.rd.fdiv 1))) 15 5 (IntKind.u32.wrap (i.a.fdiv 1))), true), (pre (putC (wordZ i.op) 7 5 (IntKind.u32.wrap (i.rd.fdiv 1))), true), (pre (okB i.op), true), (formZ i.op == 6, true), (formZ i.op == 5, false), (formZ i.op == 4, false), (formZ i.op == 3, false), (formZ i.op == 2, false), (formZ i.op == 1, false)] (by kernel_rfl) (by simp [pre, putC_put, putC_word, hm, hm, h0, h1, h2, h3, h4, h5]) w hG).of_eq (by first | (simp only [progZ, wr, Int.fdiv_one, pre, putC_put, putC_word, hm, hm, h0, h1, h2, h3, h4, h5]; rfl) | simp [progZ, wr, Int.fdiv_one, pre, putC_put, putC_word, hm, hm, h0, h1, h2, h3, h4, h5])
            · rcases Bool.eq_false_or_eq_true (formZ i.op == 7) with h6 | h6
              · exact (retP tEncC_ok pEncC_ok (fuel := 1000) OIn [false, false, false, false, false, false, true] (v := .int .u32 (putZ (putZ (putZ (wordZ i.op) 7 5 (IntKind.u32.wrap (i.rd.fdiv 1))) 15 5 (IntKind.u32.wrap (i.a.fdiv 1))) 20 6 (IntKind.u32.wrap (i.imm.fdiv 1)))) [(pre (putC (putZ (putZ (wordZ i.op) 7 5 (IntKind.u32.wrap (i.rd.fdiv 1))) 15 5 (IntKind.u32.wrap (i.a.fdiv 1))) 20 6 (IntKind.u32.wrap (i.imm.fdiv 1))), true), (pre (putC (putZ (wordZ i.op) 7 5 (IntKind.u32.wrap (i.rd.fdiv 1))) 15 5 (IntKind.u32.wrap (i.a.fdiv 1))), true), (pre (putC (wordZ i.op) 7 5 (IntKind.u32.wrap (i.rd.fdiv 1))), true), (pre (okB i.op), true), (formZ i.op == 7, true), (formZ i.op == 6, false), (formZ i.op == 5, false), (formZ i.op == 4, false), (formZ i.op == 3, false), (formZ i.op == 2, false), (formZ i.op == 1, false)] (by kernel_rfl) (by simp [pre, putC_put, putC_word, hm, hm, h0, h1, h2, h3, h4, h5, h6]) w hG).of_eq (by first | (simp only [progZ, wr, Int.fdiv_one, pre, putC_put, putC_word, hm, hm, h0, h1, h2, h3, h4, h5, h6]; rfl) | simp [progZ, wr, Int.fdiv_one, pre, putC_put, putC_word, hm, hm, h0, h1, h2, h3, h4, h5, h6])
              · rcases Bool.eq_false_or_eq_true (formZ i.op == 8) with h7 | h7
                · exact (retP tEncC_ok pEncC_ok (fuel := 1000) OIn [false, false, false, false, false, false, false, true] (v := .int .u32 (putZ (putZ (putZ (wordZ i.op) 7 5 (IntKind.u32.wrap (i.rd.fdiv 1))) 15 5 (IntKind.u32.wrap (i.a.fdiv 1))) 20 5 (IntKind.u32.wrap (i.imm.fdiv 1)))) [(pre (putC (putZ (putZ (wordZ i.op) 7 5 (IntKind.u32.wrap (i.rd.fdiv 1))) 15 5 (IntKind.u32.wrap (i.a.fdiv 1))) 20 5 (IntKind.u32.wrap (i.imm.fdiv 1))), true), (pre (putC (putZ (wordZ i.op) 7 5 (IntKind.u32.wrap (i.rd.fdiv 1))) 15 5 (IntKind.u32.wrap (i.a.fdiv 1))), true), (pre (putC (wordZ i.op) 7 5 (IntKind.u32.wrap (i.rd.fdiv 1))), true), (pre (okB i.op), true), (formZ i.op == 8, true), (formZ i.op == 7, false), (formZ i.op == 6, false), (formZ i.op == 5, false), (formZ i.op == 4, false), (formZ i.op == 3, false), (formZ i.op == 2, false), (formZ i.op == 1, false)] (by kernel_rfl) (by simp [pre, putC_put, putC_word, hm, hm, h0, h1, h2, h3, h4, h5, h6, h7]) w hG).of_eq (by first | (simp only [progZ, wr, Int.fdiv_one, pre, putC_put, putC_word, hm, hm, h0, h1, h2, h3, h4, h5, h6, h7]; rfl) | simp [progZ, wr, Int.fdiv_one, pre, putC_put, putC_word, hm, hm, h0, h1, h2, h3, h4, h5, h6, h7])
                · rcases Bool.eq_false_or_eq_true (formZ i.op == 9) with h8 | h8
                  · exact (retP tEncC_ok pEncC_ok (fuel := 1000) OIn [false, false, false, false, false, false, false, false, true] (v := .int .u32 (putZ (wordZ i.op) 20 8 (IntKind.u32.wrap (i.imm.fdiv 1)))) [(pre (putC (wordZ i.op) 20 8 (IntKind.u32.wrap (i.imm.fdiv 1))), true), (pre (okB i.op), true), (formZ i.op == 9, true), (formZ i.op == 8, false), (formZ i.op == 7, false), (formZ i.op == 6, false), (formZ i.op == 5, false), (formZ i.op == 4, false), (formZ i.op == 3, false), (formZ i.op == 2, false), (formZ i.op == 1, false)] (by kernel_rfl) (by simp [pre, putC_put, putC_word, hm, hm, h0, h1, h2, h3, h4, h5, h6, h7, h8]) w hG).of_eq (by first | (simp only [progZ, wr, Int.fdiv_one, pre, putC_put, putC_word, hm, hm, h0, h1, h2, h3, h4, h5, h6, h7, h8]; rfl) | simp [progZ, wr, Int.fdiv_one, pre, putC_put, putC_word, hm, hm, h0, h1, h2, h3, h4, h5, h6, h7, h8])
                  · rcases Bool.eq_false_or_eq_true (formZ i.op == 10) with h9 | h9
                    · exact (retP tEncC_ok pEncC_ok (fuel := 1000) OIn [false, false, false, false, false, false, false, false, false, true] (v := .int .u32 (putZ (putZ (putZ (putZ (wordZ i.op) 7 5 (IntKind.u32.wrap (i.rd.fdiv 1))) 15 5 (IntKind.u32.wrap (i.a.fdiv 1))) 26 1 (IntKind.u32.wrap ((b01 i.aq).fdiv 1))) 25 1 (IntKind.u32.wrap ((b01 i.rl).fdiv 1)))) [(pre (putC (putZ (putZ (putZ (wordZ i.op) 7 5 (IntKind.u32.wrap (i.rd.fdiv 1))) 15 5 (IntKind.u32.wrap (i.a.fdiv 1))) 26 1 (IntKind.u32.wrap ((b01 i.aq).fdiv 1))) 25 1 (IntKind.u32.wrap ((b01 i.rl).fdiv 1))), true), (pre (putC (putZ (putZ (wordZ i.op) 7 5 (IntKind.u32.wrap (i.rd.fdiv 1))) 15 5 (IntKind.u32.wrap (i.a.fdiv 1))) 26 1 (IntKind.u32.wrap ((b01 i.aq).fdiv 1))), true), (pre (putC (putZ (wordZ i.op) 7 5 (IntKind.u32.wrap (i.rd.fdiv 1))) 15 5 (IntKind.u32.wrap (i.a.fdiv 1))), true), (pre (putC (wordZ i.op) 7 5 (IntKind.u32.wrap (i.rd.fdiv 1))), true), (pre (okB i.op), true), (formZ i.op == 10, true), (formZ i.op == 9, false), (formZ i.op == 8, false), (formZ i.op == 7, false), (formZ i.op == 6, false), (formZ i.op == 5, false), (formZ i.op == 4, false), (formZ i.op == 3, false), (formZ i.op == 2, false), (formZ i.op == 1, false)] (by kernel_rfl) (by simp [pre, putC_put, putC_word, hm, hm, h0, h1, h2, h3, h4, h5, h6, h7, h8, h9]) w hG).of_eq (by first | (simp only [progZ, wr, Int.fdiv_one, pre, putC_put, putC_word, hm, hm, h0, h1, h2, h3, h4, h5, h6, h7, h8, h9]; rfl) | simp [progZ, wr, Int.fdiv_one, pre, putC_put, putC_word, hm, hm, h0, h1, h2, h3, h4, h5, h6, h7, h8, h9])
                    · rcases Bool.eq_false_or_eq_true (formZ i.op == 11) with h10 | h10
                      · exact (retP tEncC_ok pEncC_ok (fuel := 1000) OIn [false, false, false, false, false, false, false, false, false, false, true] (v := .int .u32 (putZ (putZ (putZ (putZ (putZ (wordZ i.op) 7 5 (IntKind.u32.wrap (i.rd.fdiv 1))) 15 5 (IntKind.u32.wrap (i.a.fdiv 1))) 20 5 (IntKind.u32.wrap (i.b.fdiv 1))) 26 1 (IntKind.u32.wrap ((b01 i.aq).fdiv 1))) 25 1 (IntKind.u32.wrap ((b01 i.rl).fdiv 1)))) [(pre (putC (putZ (putZ (putZ (putZ (wordZ i.op) 7 5 (IntKind.u32.wrap (i.rd.fdiv 1))) 15 5 (IntKind.u32.wrap (i.a.fdiv 1))) 20 5 (IntKind.u32.wrap (i.b.fdiv 1))) 26 1 (IntKind.u32.wrap ((b01 i.aq).fdiv 1))) 25 1 (IntKind.u32.wrap ((b01 i.rl).fdiv 1))), true), (pre (putC (putZ (putZ (putZ (wordZ i.op) 7 5 (IntKind.u32.wrap (i.rd.fdiv 1))) 15 5 (IntKind.u32.wrap (i.a.fdiv 1))) 20 5 (IntKind.u32.wrap (i.b.fdiv 1))) 26 1 (IntKind.u32.wrap ((b01 i.aq).fdiv 1))), true), (pre (putC (putZ (putZ (wordZ i.op) 7 5 (IntKind.u32.wrap (i.rd.fdiv 1))) 15 5 (IntKind.u32.wrap (i.a.fdiv 1))) 20 5 (IntKind.u32.wrap (i.b.fdiv 1))), true), (pre (putC (putZ (wordZ i.op) 7 5 (IntKind.u32.wrap (i.rd.fdiv 1))) 15 5 (IntKind.u32.wrap (i.a.fdiv 1))), true), (pre (putC (wordZ i.op) 7 5 (IntKind.u32.wrap (i.rd.fdiv 1))), true), (pre (okB i.op), true), (formZ i.op == 11, true), (formZ i.op == 10, false), (formZ i.op == 9, false), (formZ i.op == 8, false), (formZ i.op == 7, false), (formZ i.op == 6, false), (formZ i.op == 5, false), (formZ i.op == 4, false), (formZ i.op == 3, false), (formZ i.op == 2, false), (formZ i.op == 1, false)] (by kernel_rfl) (by simp [pre, putC_put, putC_word, hm, hm, h0, h1, h2, h3, h4, h5, h6, h7, h8, h9, h10]) w hG).of_eq (by first | (simp only [progZ, wr, Int.fdiv_one, pre, putC_put, putC_word, hm, hm, h0, h1, h2, h3, h4, h5, h6, h7, h8, h9, h10]; rfl) | simp [progZ, wr, Int.fdiv_one, pre, putC_put, putC_word, hm, hm, h0, h1, h2, h3, h4, h5, h6, h7, h8, h9, h10])
                      · exact (retP tEncC_ok pEncC_ok (fuel := 1000) OIn [false, false, false, false, false, false, false, false, false, false, false] (v := .int .u32 (wordZ i.op)) [(pre (okB i.op), true), (formZ i.op == 11, false), (formZ i.op == 10, false), (formZ i.op == 9, false), (formZ i.op == 8, false), (formZ i.op == 7, false), (formZ i.op == 6, false), (formZ i.op == 5, false), (formZ i.op == 4, false), (formZ i.op == 3, false), (formZ i.op == 2, false), (formZ i.op == 1, false)] (by kernel_rfl) (by simp [pre, putC_put, putC_word, hm, hm, h0, h1, h2, h3, h4, h5, h6, h7, h8, h9, h10]) w hG).of_eq (by first | (simp only [progZ, wr, Int.fdiv_one, pre, putC_put, putC_word, hm, hm, h0, h1, h2, h3, h4, h5, h6, h7, h8, h9, h10]; rfl) | simp [progZ, wr, Int.fdiv_one, pre, putC_put, putC_word, hm, hm, h0, h1, h2, h3, h4, h5, h6, h7, h8, h9, h10])
theorem put_step (x v a n p q : Int) (hp : (((2 ^ a.toNat : Nat) : Int) = p) ∧ (((2 ^ n.toNat : Nat) : Int) = q) ∧ a.toNat + n.toNat ≤ 32) (x0 : 0 ≤ x) (x1 : x < 4294967296) (hz : x / p % q = 0) : putZ x a n (wr v) = x + v % q * p := by
  obtain ⟨hp, hq, h4⟩ := hp
  rw [putZ_eq, wr, IntKind.wrap_u32]
  generalize a.toNat = a' at *
  generalize n.toNat = n' at *
  obtain ⟨X, rfl⟩ := Int.eq_ofNat_of_zero_le x0
  subst hp hq
  have hz' : X / 2 ^ a' % 2 ^ n' = 0 := by exact_mod_cast hz
  have hl := putF_lt X a' n' (v % 4294967296).toNat (by omega) h4
  rw [Int.toNat_natCast, Nat.mod_eq_of_lt hl, put_or X a' n' _ (by omega) h4 hz']
  have hd : ((2 ^ n' : Nat) : Int) ∣ 4294967296 := ⟨((2 ^ (32 - n') : Nat) : Int), by
    rw [← Int.natCast_mul, ← Nat.pow_add, show n' + (32 - n') = 32 by omega]; rfl⟩
  have e : (((v % 4294967296).toNat % 2 ^ n' : Nat) : Int) = v % ((2 ^ n' : Nat) : Int) := by
    rw [Int.natCast_emod, Int.toNat_of_nonneg (by omega), Int.emod_emod_of_dvd _ hd]
  rw [Int.natCast_add, Int.natCast_mul, e]
theorem prog_enc (i : In) (hm : mayB i = true) : progZ i = encZ i := by
  have hk := form_rng (may_ok hm)
  have F := may_fld hm
  have hI := imm_rng F.im hk.1 hk.2
  obtain ⟨r0, r1, rn, a0, a1, an, b0, b1, bn, _, on, wd⟩ := F
  obtain ⟨op, rd, a, b, imm, aq, rl⟩ := i
  have hk' : formZ op = 0 ∨ formZ op = 1 ∨ formZ op = 2 ∨ formZ op = 3 ∨ formZ op = 4 ∨ formZ op = 5 ∨ formZ op = 6 ∨ formZ op = 7 ∨ formZ op = 8 ∨ formZ op = 9 ∨ formZ op = 10 ∨ formZ op = 11 := by simp at hk; omega
  have q0 := b01_cases aq
  have q1 := b01_cases rl
  unfold encZ progZ
  simp only at *
  clear hm
  generalize wordZ op = W at *
  unfold immRg at hI
  generalize formZ op = k at *
  rcases hk' with rfl | rfl | rfl | rfl | rfl | rfl | rfl | rfl | rfl | rfl | rfl | rfl
  all_goals
    simp [wordOk] at wd hI
    simp [rdF, aF, bF, oF, atZ] at rn an bn on
    simp only [immZ]
    simp
  · obtain ⟨rfl, rfl⟩ := on
    simp [b01, rn, an, bn]
  · obtain ⟨rfl, rfl⟩ := on
    rw [put_step W rd 7 5 128 32 (by decide) (by omega) (by omega) (by omega), put_step _ imm 12 20 4096 1048576 (by decide) (by omega) (by omega) (by omega)]
    simp only [b01, an, bn, cond_false]; omega
  · obtain ⟨rfl, rfl⟩ := on
    have e1 : rd % 32 = rd := by omega
    rw [Int.fdiv_eq_ediv_of_nonneg _ (by omega), Int.fdiv_eq_ediv_of_nonneg _ (by omega), Int.fdiv_eq_ediv_of_nonneg _ (by omega), Int.fdiv_eq_ediv_of_nonneg _ (by omega)]
    obtain ⟨s, p, q, r, f1, f2, f3, f4, f5, s0, s1, p0, p1, q0', q1', r0', r1'⟩ := parts_j imm (by omega) (by omega) (by omega)
    rw [put_step W rd 7 5 128 32 (by decide) (by omega) (by omega) (by omega), e1,
      put_step _ _ 31 1 2147483648 2 (by decide) (by omega) (by omega) (by omega), f1,
      put_step _ _ 12 8 4096 256 (by decide) (by omega) (by omega) (by clear f1 f2 f3 f4 f5 hI; omega), f2,
      put_step _ _ 20 1 1048576 2 (by decide) (by clear f1 f2 f3 f4 f5 hI; omega) (by clear f1 f2 f3 f4 f5 hI; omega) (by clear f1 f2 f3 f4 f5 hI; omega), f3,
      put_step _ _ 21 10 2097152 1024 (by decide) (by clear f1 f2 f3 f4 f5 hI; omega) (by clear f1 f2 f3 f4 f5 hI; omega) (by clear f1 f2 f3 f4 f5 hI; omega), f4]
    simp only [b01, an, bn, cond_false]; clear f1 f2 f3 f4 f5 hI; omega
  · obtain ⟨rfl, rfl⟩ := on
    have e1 : rd % 32 = rd := by omega
    have e2 : a % 32 = a := by omega
    obtain ⟨o, f, rfl, o0, o1, g0, g1⟩ := parts_w W (by omega) (by omega) (by omega)
    clear wd
    rw [put_step _ rd 7 5 128 32 (by decide) (by omega) (by omega) (by omega), e1,
      put_step _ a 15 5 32768 32 (by decide) (by omega) (by omega) (by omega), e2,
      put_step _ imm 20 12 1048576 4096 (by decide) (by omega) (by omega) (by omega)]
    simp only [b01, bn, cond_false]; omega
  · obtain ⟨rfl, rfl⟩ := on
    have e1 : a % 32 = a := by omega
    have e2 : b % 32 = b := by omega
    rw [Int.fdiv_eq_ediv_of_nonneg _ (by omega), Int.fdiv_eq_ediv_of_nonneg _ (by omega), Int.fdiv_eq_ediv_of_nonneg _ (by omega), Int.fdiv_eq_ediv_of_nonneg _ (by omega)]
    obtain ⟨s, p, q, r, f1, f2, f3, f4, f5, s0, s1, p0, p1, q0', q1', r0', r1'⟩ := parts_b imm (by omega) (by omega) (by omega)
    obtain ⟨o, f, rfl, o0, o1, g0, g1⟩ := parts_w W (by omega) (by omega) (by omega)
    clear wd hI
    rw [put_step _ a 15 5 32768 32 (by decide) (by omega) (by omega) (by omega), e1,
      put_step _ b 20 5 1048576 32 (by decide) (by omega) (by omega) (by omega), e2,
      put_step _ _ 31 1 2147483648 2 (by decide) (by omega) (by omega) (by omega), f1,
      put_step _ _ 7 1 128 2 (by decide) (by clear f1 f2 f3 f4 f5; omega) (by clear f1 f2 f3 f4 f5; omega) (by clear f1 f2 f3 f4 f5; omega), f2,
      put_step _ _ 25 6 33554432 64 (by decide) (by clear f1 f2 f3 f4 f5; omega) (by clear f1 f2 f3 f4 f5; omega) (by clear f1 f2 f3 f4 f5; omega), f3,
      put_step _ _ 8 4 256 16 (by decide) (by clear f1 f2 f3 f4 f5; omega) (by clear f1 f2 f3 f4 f5; omega) (by clear f1 f2 f3 f4 f5; omega), f4]
    simp only [b01, rn, cond_false]; clear f1 f2 f3 f4 f5; omega
  · obtain ⟨rfl, rfl⟩ := on
    have e1 : a % 32 = a := by omega
    have e2 : b % 32 = b := by omega
    rw [Int.fdiv_eq_ediv_of_nonneg _ (by omega)]
    obtain ⟨o, f, rfl, o0, o1, g0, g1⟩ := parts_w W (by omega) (by omega) (by omega)
    clear wd
    rw [put_step _ a 15 5 32768 32 (by decide) (by omega) (by omega) (by omega), e1,
      put_step _ b 20 5 1048576 32 (by decide) (by omega) (by omega) (by omega), e2,
      put_step _ _ 25 7 33554432 128 (by decide) (by omega) (by omega) (by omega),
      put_step _ _ 7 5 128 32 (by decide) (by omega) (by omega) (by omega)]
    simp only [b01, rn, cond_false]; omega
  · obtain ⟨rfl, rfl⟩ := on
    have e1 : rd % 32 = rd := by omega
    have e2 : a % 32 = a := by omega
    have e3 : b % 32 = b := by omega
    obtain ⟨o, f, g, rfl, o0, o1, g0, g1, g2, g3⟩ := parts_w2 W 1024 33554432 (by omega) (by omega) (by omega) (by omega) (by omega)
    clear wd
    rw [put_step _ rd 7 5 128 32 (by decide) (by omega) (by omega) (by omega), e1,
      put_step _ a 15 5 32768 32 (by decide) (by omega) (by omega) (by omega), e2,
      put_step _ b 20 5 1048576 32 (by decide) (by omega) (by omega) (by omega), e3]
    simp only [b01, cond_false]; omega
  · obtain ⟨rfl, rfl⟩ := on
    have e1 : rd % 32 = rd := by omega
    have e2 : a % 32 = a := by omega
    obtain ⟨o, f, g, rfl, o0, o1, g0, g1, g2, g3⟩ := parts_w2 W 2048 67108864 (by omega) (by omega) (by omega) (by omega) (by omega)
    clear wd
    rw [put_step _ rd 7 5 128 32 (by decide) (by omega) (by omega) (by omega), e1,
      put_step _ a 15 5 32768 32 (by decide) (by omega) (by omega) (by omega), e2,
      put_step _ imm 20 6 1048576 64 (by decide) (by omega) (by omega) (by omega)]
    simp only [b01, bn, cond_false]; omega
  · obtain ⟨rfl, rfl⟩ := on
    have e1 : rd % 32 = rd := by omega
    have e2 : a % 32 = a := by omega
    obtain ⟨o, f, g, rfl, o0, o1, g0, g1, g2, g3⟩ := parts_w2 W 1024 33554432 (by omega) (by omega) (by omega) (by omega) (by omega)
    clear wd
    rw [put_step _ rd 7 5 128 32 (by decide) (by omega) (by omega) (by omega), e1,
      put_step _ a 15 5 32768 32 (by decide) (by omega) (by omega) (by omega), e2,
      put_step _ imm 20 5 1048576 32 (by decide) (by omega) (by omega) (by omega)]
    simp only [b01, bn, cond_false]; omega
  · obtain ⟨rfl, rfl⟩ := on
    rw [put_step _ imm 20 8 1048576 256 (by decide) (by omega) (by omega) (by omega)]
    simp only [b01, rn, an, bn, cond_false]; omega
  · have e1 : rd % 32 = rd := by omega
    have e2 : a % 32 = a := by omega
    generalize b01 aq = x at *
    generalize b01 rl = y at *
    have e3 : x % 2 = x := by omega
    have e4 : y % 2 = y := by omega
    obtain ⟨o, f, g, rfl, o0, o1, g0, g1, g2, g3⟩ := parts_w2 W 4096 134217728 (by omega) (by omega) (by omega) (by omega) (by omega)
    clear wd
    rw [put_step _ rd 7 5 128 32 (by decide) (by omega) (by omega) (by omega), e1,
      put_step _ a 15 5 32768 32 (by decide) (by omega) (by omega) (by omega), e2,
      put_step _ x 26 1 67108864 2 (by decide) (by omega) (by omega) (by omega), e3,
      put_step _ y 25 1 33554432 2 (by decide) (by omega) (by omega) (by omega), e4]
    simp only [bn]; omega
  · have e1 : rd % 32 = rd := by omega
    have e2 : a % 32 = a := by omega
    have e5 : b % 32 = b := by omega
    generalize b01 aq = x at *
    generalize b01 rl = y at *
    have e3 : x % 2 = x := by omega
    have e4 : y % 2 = y := by omega
    obtain ⟨o, f, g, rfl, o0, o1, g0, g1, g2, g3⟩ := parts_w2 W 4096 134217728 (by omega) (by omega) (by omega) (by omega) (by omega)
    clear wd
    rw [put_step _ rd 7 5 128 32 (by decide) (by omega) (by omega) (by omega), e1,
      put_step _ a 15 5 32768 32 (by decide) (by omega) (by omega) (by omega), e2,
      put_step _ b 20 5 1048576 32 (by decide) (by omega) (by omega) (by omega), e5,
      put_step _ x 26 1 67108864 2 (by decide) (by omega) (by omega) (by omega), e3,
      put_step _ y 25 1 33554432 2 (by decide) (by omega) (by omega) (by omega), e4]
    try omega
theorem encode_ret (i : In) (hm : mayB i = true) (w : World) (hG : GlobOk encGl w) : Ret Tryd.prog 84 #[inV i] (.int .u32 (encZ i)) w := by
  rw [← prog_enc i hm]
  exact encode_prog i (may_ok hm) w hG
noncomputable def decEncode : List Value → Option (Value × Bool) := fun l => match decIn l with
  | some i => some (.int .u32 (encZ i), pre (mayB i))
  | none => none
noncomputable def pEncode : PTab := prowD 84 decEncode
theorem pEncode_ok : PTabOk Tryd.prog encGl pEncode := .rowD fun args u hd w hG => by
  unfold decEncode at hd
  split at hd
  · rename_i i hi
    simp only [Option.some.injEq, Prod.mk.injEq, pre] at hd
    obtain ⟨rfl, hc⟩ := hd
    rw [decIn_eq _ _ hi]
    exact encode_ret i hc w hG
  · cases hd
def wordE (i : In) : Int := bif mayB i then encZ i else 0
def errE (i : In) : Int := bif mayB i then 0 else 1
theorem enc_ret (i : In) (w : World) (hG : GlobOk encGl w) : Ret Tryd.prog 63 #[inV i] (.tuple #[.int .u32 (wordE i), .int .i64 (errE i)]) w := by
  rcases Bool.eq_false_or_eq_true (mayB i) with h0 | h0
  · exact (retP tMay_ok pEncode_ok (fuel := 1000) OIn [false] (v := .tuple #[.int .u32 (encZ i), .int .i64 (0)]) [(pre (mayB i), true), (!mayB i, false)] (by kernel_rfl) (by simp [pre, h0]) w hG).of_eq (by first | (simp only [wordE, errE, pre, h0]; rfl) | simp [wordE, errE, pre, h0])
  · exact (retP tMay_ok pEncode_ok (fuel := 1000) OIn [true] (v := .tuple #[.int .u32 (0), .int .i64 (1)]) [(!mayB i, true)] (by kernel_rfl) (by simp [pre, h0]) w hG).of_eq (by first | (simp only [wordE, errE, pre, h0]; rfl) | simp [wordE, errE, pre, h0])
noncomputable def tEncode : Tab := row 63 decIn fun i => .tuple #[.int .u32 (wordE i), .int .i64 (errE i)]
theorem tEncode_ok : TabOk Tryd.prog encGl tEncode := tabV decIn_eq fun i w hG => enc_ret i w hG
end Go.Proofs.YtiajbijbhhpllaaDoor
namespace Go.Proofs.YtiajbijbhhpllaaDoor
open Go.RowKit
theorem refBit_any (v i : Nat) (w : World) (hv : v < 18446744073709551616) (hi : i ≤ 64) :
    Calls Tryd.prog 38 #[.int .u64 v, .int .i64 i] w fun e w' => e = .returned (.int .i64 (bitN v i : Nat)) ∧ w = w' := by
  go_enter Tryd.func38, Tryd.ntmps38
  go_wp2
  go_loop [0, 5] (fun a k => ∃ j : Nat, j ≤ i ∧ k = .int .i64 j ∧ a = .int .u64 (shrN v j : Nat)) (fun _ k => i - (intOf k).toNat)
  case atStart => exact ⟨0, Nat.zero_le _, rfl, by rw [shrN_zero]⟩
  case round =>
    obtain ⟨j, hj, rfl, rfl⟩ := hrel
    have hle := shrN_le v j
    by_cases hlt : j < i
    · have hs := hid (shrN_succ v j)
      go_wp2
      go_round
      case rel => exact ⟨j + 1, by omega, by go_num, by rw [hs.out]; go_num⟩
      case measure => simp [intOf]; omega
    · go_wp2
      go_ret
      obtain rfl : i = j := by omega
      exact ⟨ret_int (by rw [← shrN_bit]; omega), rfl⟩
theorem refPower_any (n : Nat) (w : World) (h2 : n ≤ 63) :
    Calls Tryd.prog 39 #[.int .i64 n] w fun e w' => e = .returned (.int .u64 (2 ^ n : Nat)) ∧ w = w' := by
  go_enter Tryd.func39, Tryd.ntmps39
  go_wp2
  go_loop [3, 4] (fun p k => ∃ j : Nat, j ≤ n ∧ k = .int .i64 j ∧ p = .int .u64 (powN j : Nat)) (fun _ k => n - (intOf k).toNat)
  case atStart => exact ⟨0, Nat.zero_le _, rfl, rfl⟩
  case round =>
    obtain ⟨j, hj, rfl, rfl⟩ := hrel
    by_cases hlt : j < n
    · have h1 := powN_le (j + 1) 63 (by omega)
      have hs := hid (powN_succ j)
      rw [powN_63] at h1
      have h3 : 2 * powN j ≤ 9223372036854775808 := by rw [← hs.out]; exact h1
      clear h1
      go_wp2
      go_round
      case rel => exact ⟨j + 1, by omega, by go_num, by rw [hs.out]; go_num⟩
      case measure => simp [intOf]; omega
    · go_wp2
      go_ret
      obtain rfl : n = j := by omega
      exact ⟨rfl, rfl⟩
end Go.Proofs.YtiajbijbhhpllaaDoor
namespace Go.Proofs.YtiajbijbhhpllaaDoor
open Go.RowKit Sim
theorem letter_in {gl : Gl} : (List.range 88).all (runs { P := Tryd.prog, glob := gl, call := noT } 1000 40 (fun n => [.int .i64 n]) fun n => .int .u8 (letZ n)) = true := by kernel_rfl
theorem letter_ret {gl : Gl} (op : Int) (w : World) (hG : GlobOk gl w) : Ret Tryd.prog 40 #[.int .i64 op] (.int .u8 (letZ op)) w := by
  rcases op_cases op with ⟨n, h1, h2, rfl⟩ | h
  · exact runs_ret (TabOk.none _ _) letter_in n h2 w hG
  · have e : (Value.int .u8 0) = .int .u8 (letZ op) := by rw [letZ_out h]
    cases h0 : decide (op < 1)
    case true => exact (ret (TabOk.none _ _) (fuel := 1000) O1 [true] (v := .int .u8 0) [(decide (op < 1), true)] (by kernel_rfl) (by simp [h0]) w hG).of_eq e
    case false =>
      have h1 : decide (op > 87) = true := by simp at h0 ⊢; omega
      exact (ret (TabOk.none _ _) (fuel := 1000) O1 [false, true] (v := .int .u8 0) [(decide (op > 87), true), (decide (op < 1), false)] (by kernel_rfl) (by simp only [h0, h1]; simp) w hG).of_eq e
def tLetter : Tab := row 40 decI fun x => .int .u8 (letZ x)
theorem tLetter_ok {gl : Gl} : TabOk Tryd.prog gl tLetter := tabI fun x w hG => letter_ret x w hG
theorem refForm_in {gl : Gl} : (List.range 88).all (runs { P := Tryd.prog, glob := gl, call := noT } 1000 25 (fun n => [.int .i64 n]) fun n => .int .i64 (formZ n)) = true := by kernel_rfl
def lettersL : List Int := [85, 74, 73, 66, 83, 82, 72, 87, 70, 78, 76, 65]
theorem refForm_ret {gl : Gl} (op : Int) (w : World) (hG : GlobOk gl w) : Ret Tryd.prog 25 #[.int .i64 op] (.int .i64 (formZ op)) w := by
  rcases op_cases op with ⟨n, h1, h2, rfl⟩ | h
  · exact runs_ret (TabOk.none _ _) refForm_in n h2 w hG
  · refine (ret tLetter_ok (fuel := 1000) O1 (List.replicate 12 false) (v := .int .i64 (-1)) (lettersL.reverse.map fun k => (letZ op == k, false)) (by kernel_rfl) (fun p hp => ?_) w hG).of_eq (by rw [formZ_out h])
    obtain ⟨k, hk, rfl⟩ := List.mem_map.mp hp
    have : 65 ≤ k := (show ∀ k ∈ lettersL.reverse, 65 ≤ k by decide) k hk
    rw [letZ_out h]
    simp; omega
def tRefForm : Tab := row 25 decI fun x => .int .i64 (formZ x)
theorem tRefForm_ok {gl : Gl} : TabOk Tryd.prog gl tRefForm := tabI fun x w hG => refForm_ret x w hG
end Go.Proofs.YtiajbijbhhpllaaDoor
namespace Go.Proofs.YtiajbijbhhpllaaDoor
open Go.RowKit Sim
def tRefWords : Tab := row 37 dec0 fun _ => .agg ((wordL.drop 1).take 76 |>.map fun x => .int .u32 x).toArray
theorem tRefWords_ok {gl : Gl} : TabOk Tryd.prog gl tRefWords := tab0 fun w hG => ret (TabOk.none _ _) (fuel := 1000) [] [] (v := .agg ((wordL.drop 1).take 76 |>.map fun x => .int .u32 x).toArray) [] (by kernel_rfl) (fun _ h => by cases h) w hG
theorem refWord_in {gl : Gl} : (List.range 87).all (runs { P := Tryd.prog, glob := gl, call := tRefWords } 1000 23 (fun n => [.int .i64 ((n + 1 : Nat) : Int)]) fun n => .int .u32 (wordZ ((n + 1 : Nat) : Int))) = true := by kernel_rfl
def pRefWord : PTab := prow 23 decI (fun x => .int .u32 (wordZ x)) okB
theorem pRefWord_ok {gl : Gl} : PTabOk Tryd.prog gl pRefWord := .row (enc := fun x => [.int .i64 x]) (fun l a h => decI_eq h) fun x hc w hG => by
  rcases op_cases x with ⟨n, h1, h2, rfl⟩ | h
  · obtain ⟨m, rfl⟩ : ∃ m, n = m + 1 := ⟨n - 1, by omega⟩
    exact runs_ret tRefWords_ok refWord_in m (by omega) w hG
  · rw [okB_out h] at hc; cases hc
def partN (v f j a : Nat) : Nat := v / 2 ^ f % 2 ^ j * 2 ^ a
theorem partN_zero (v f a : Nat) : partN v f 0 a = 0 := by unfold partN; simp [Nat.mod_one]
theorem partN_succ (v f j a : Nat) : partN v f (j + 1) a = partN v f j a + powN (a + j) * bitN v (f + j) := by
  unfold partN powN bitN
  rw [Nat.pow_succ, Nat.mod_mul, Nat.add_mul, Nat.div_div_eq_div_mul, ← Nat.pow_add, Nat.pow_add 2 a j]
  congr 1
  rw [Nat.mul_comm (2 ^ j), Nat.mul_assoc, Nat.mul_comm, Nat.mul_comm (2 ^ j)]
theorem partN_lt (v f j a : Nat) : partN v f j a < powN (a + j) := by
  unfold partN powN
  rw [Nat.pow_add, Nat.mul_comm]
  exact (Nat.mul_lt_mul_left (Nat.two_pow_pos a)).mpr (Nat.mod_lt _ (Nat.two_pow_pos j))
theorem refBits_any (n : Int) (f c a : Nat) (w : World) (h1 : f + c ≤ 64) (h2 : a + c ≤ 62) :
    Calls Tryd.prog 24 #[.int .i64 n, .int .i64 f, .int .i64 c, .int .i64 a] w fun e w' => e = .returned (.int .u32 (partN (u64N n) f c a % 4294967296 : Nat)) ∧ w = w' := by
  have hu := hid (u64N_eq n)
  have hlt := u64N_lt n
  generalize hv : u64N n = v at *
  clear hv
  go_enter Tryd.func24, Tryd.ntmps24
  go_wp2
  go_loop [9, 10] (fun o k => ∃ j : Nat, j ≤ c ∧ k = .int .i64 j ∧ o = .int .u64 (partN v f j a : Nat)) (fun _ k => c - (intOf k).toNat)
  case atStart => exact ⟨0, Nat.zero_le _, rfl, by rw [partN_zero]; rfl⟩
  case round =>
    obtain ⟨j, hj, rfl, rfl⟩ := hrel
    have hp1 := partN_lt v f j a
    have hp2 := powN_le (a + j) 62 (by omega)
    have h62 : powN 62 = 4611686018427387904 := by decide
    rw [h62] at hp2
    have hb : bitN v (f + j) = 0 ∨ bitN v (f + j) = 1 := by have := bitN_lt v (f + j); omega
    have hs := hid (partN_succ v f j a)
    have hpc := hid (fun (h : j < c) W => refPower_any (a + j) W (by omega))
    have hcast := hid (show (f : Int) + j = ((f + j : Nat) : Int) by omega)
    have hcast2 := hid (show (a : Int) + j = ((a + j : Nat) : Int) by omega)
    rw [show (2 ^ (a + j) : Nat) = powN (a + j) from rfl] at hpc
    by_cases hl : j < c
    · have hc := hid (fun W => refBit_any v (f + j) W hlt (by omega))
      rcases hb with hb | hb
      all_goals
        rw [hb] at hs hc
        clear hb
        go_wp2_with (first | (go_at_call 38; rw [hu.out, hcast.out]; refine (hc.out _).mono ?_; rintro e w' ⟨rfl, rfl⟩) | (go_at_call 39; rw [hcast2.out]; refine (hpc.out hl _).mono ?_; rintro e w' ⟨rfl, rfl⟩))
        go_round
        case rel => exact ⟨j + 1, by omega, by go_num, by rw [hs.out]; go_num⟩
        case measure => simp [intOf]; omega
    · go_wp2
      go_ret
      obtain rfl : c = j := by omega
      exact ⟨ret_int (by omega), rfl⟩
theorem bitsZ_ex : ∃ g : Int → Int → Int → Int → Int, ∀ n f c a, g n f c a = ((partN (u64N n) f.toNat c.toNat a.toNat % 4294967296 : Nat) : Int) := ⟨_, fun _ _ _ _ => rfl⟩
noncomputable def bitsZ : Int → Int → Int → Int → Int := Classical.choose bitsZ_ex
theorem bitsZ_eq (n f c a : Int) : bitsZ n f c a = ((partN (u64N n) f.toNat c.toNat a.toNat % 4294967296 : Nat) : Int) := Classical.choose_spec bitsZ_ex n f c a
def bitsC (f c a : Int) : Bool := decide (0 ≤ f ∧ 0 ≤ c ∧ 0 ≤ a ∧ f + c ≤ 64 ∧ a + c ≤ 62)
noncomputable def decBits : List Value → Option (Value × Bool)
  | [.int .i64 n, .int .i64 f, .int .i64 c, .int .i64 a] => some (.int .u32 (bitsZ n f c a), pre (bitsC f c a))
  | _ => none
noncomputable def pRefBits : PTab := prowD 24 decBits
theorem pRefBits_ok {gl : Gl} : PTabOk Tryd.prog gl pRefBits := .rowD fun args u hd w hG => by
  unfold decBits at hd
  split at hd
  · rename_i n f c a
    simp only [Option.some.injEq, Prod.mk.injEq, pre] at hd
    obtain ⟨rfl, hc⟩ := hd
    simp [bitsC] at hc
    obtain ⟨f0, c0, a0, h1, h2⟩ := hc
    obtain ⟨f, rfl⟩ := Int.eq_ofNat_of_zero_le f0
    obtain ⟨c, rfl⟩ := Int.eq_ofNat_of_zero_le c0
    obtain ⟨a, rfl⟩ := Int.eq_ofNat_of_zero_le a0
    refine (Ret.of_same (refBits_any n f c a w (by omega) (by omega))).of_eq ?_
    rw [bitsZ_eq, Int.toNat_natCast, Int.toNat_natCast, Int.toNat_natCast]
  · cases hd
noncomputable def pRefEncC : PTab := orP pRefWord pRefBits
theorem pRefEncC_ok {gl : Gl} : PTabOk Tryd.prog gl pRefEncC := pRefWord_ok.or pRefBits_ok
def orW (x y : Int) : Int := IntKind.u32.wrap ((BitVec.ofInt 32 x ||| BitVec.ofInt 32 y).toNat : Int)
def anW (x y : Int) : Int := IntKind.u32.wrap ((BitVec.ofInt 32 x &&& ~~~BitVec.ofInt 32 y).toNat : Int)
noncomputable def ref0Z (i : In) : Int := orW (orW (orW (wordZ i.op) (bitsZ i.rd 0 5 7)) (bitsZ i.a 0 5 15)) (bitsZ i.b 0 5 20)
noncomputable def refZ (i : In) : Int :=
  bif formZ i.op == 1 then orW (ref0Z i) (bitsZ i.imm 0 20 12)
  else bif formZ i.op == 2 then orW (orW (orW (orW (ref0Z i) (bitsZ i.imm 20 1 31)) (bitsZ i.imm 1 10 21)) (bitsZ i.imm 11 1 20)) (bitsZ i.imm 12 8 12)
  else bif formZ i.op == 3 then orW (ref0Z i) (bitsZ i.imm 0 12 20)
  else bif formZ i.op == 4 then orW (orW (orW (orW (anW (ref0Z i) (bitsZ (-1) 0 5 7)) (bitsZ i.imm 12 1 31)) (bitsZ i.imm 5 6 25)) (bitsZ i.imm 1 4 8)) (bitsZ i.imm 11 1 7)
  else bif formZ i.op == 5 then orW (orW (anW (ref0Z i) (bitsZ (-1) 0 5 7)) (bitsZ i.imm 5 7 25)) (bitsZ i.imm 0 5 7)
  else bif formZ i.op == 7 then orW (ref0Z i) (bitsZ i.imm 0 6 20)
  else bif formZ i.op == 8 then orW (ref0Z i) (bitsZ i.imm 0 5 20)
  else bif formZ i.op == 9 then orW (ref0Z i) (bitsZ i.imm 0 8 20)
  else ref0Z i
theorem refEncode_plain {gl : Gl} (i : In) (hm : okB i.op = true) (hq : i.aq = false) (hr : i.rl = false) (w : World) (hG : GlobOk gl w) : Ret Tryd.prog 11 #[inV i] (.int .u32 (refZ i)) w := by
  rcases Bool.eq_false_or_eq_true (formZ i.op == 1) with h0 | h0
  · exact (retP tRefForm_ok pRefEncC_ok (fuel := 1000) OIn [true, false, false] (v := .int .u32 (IntKind.u32.wrap ↑(BitVec.ofInt 32 (IntKind.u32.wrap ↑(BitVec.ofInt 32 (IntKind.u32.wrap ↑(BitVec.ofInt 32 (IntKind.u32.wrap ↑(BitVec.ofInt 32 (wordZ i.op) ||| BitVec.ofInt 32 (bitsZ i.rd 0 5 7)).toNat) ||| BitVec.ofInt 32 (bitsZ i.a 0 5 15)).toNat) ||| BitVec.ofInt 32 (bitsZ i.b 0 5 20)).toNat) ||| BitVec.ofInt 32 (bitsZ i.imm 0 20 12)).toNat)) [(i.rl, false), (i.aq, false), (pre (bitsC 0 20 12), true), (formZ i.op == 1, true), (pre (bitsC 0 5 20), true), (pre (bitsC 0 5 15), true), (pre (bitsC 0 5 7), true), (pre (okB i.op), true)] (by kernel_rfl) (by simp [pre, bitsC, hm, hm, hq, hr, h0]) w hG).of_eq (by first | (simp only [refZ, ref0Z, orW, anW, pre, bitsC, hm, hm, hq, hr, h0]; rfl) | simp [refZ, ref0Z, orW, anW, pre, bitsC, hm, hm, hq, hr, h0])
  · rcases Bool.eq_false_or_eq_true (formZ i.op == 2) with h1 | h1
    · exact (retP tRefForm_ok pRefEncC_ok (fuel := 1000) OIn [false, true, false, false] (v := .int .u32 (IntKind.u32.wrap ↑(BitVec.ofInt 32 (IntKind.u32.wrap ↑(BitVec.ofInt 32 (IntKind.u32.wrap ↑(BitVec.ofInt 32 (IntKind.u32.wrap ↑(BitVec.ofInt 32 (IntKind.u32.wrap ↑(BitVec.ofInt 32 (IntKind.u32.wrap ↑(BitVec.ofInt 32 (IntKind.u32.wrap ↑(BitVec.ofInt 32 (wordZ i.op) ||| BitVec.ofInt 32 (bitsZ i.rd 0 5 7)).toNat) ||| BitVec.ofInt 32 (bitsZ i.a 0 5 15)).toNat) ||| BitVec.ofInt 32 (bitsZ i.b 0 5 20)).toNat) ||| BitVec.ofInt 32 (bitsZ i.imm 20 1 31)).toNat) ||| BitVec.ofInt 32 (bitsZ i.imm 1 10 21)).toNat) ||| BitVec.ofInt 32 (bitsZ i.imm 11 1 20)).toNat) ||| BitVec.ofInt 32 (bitsZ i.imm 12 8 12)).toNat)) [(i.rl, false), (i.aq, false), (pre (bitsC 12 8 12), true), (pre (bitsC 11 1 20), true), (pre (bitsC 1 10 21), true), (pre (bitsC 20 1 31), true), (formZ i.op == 2, true), (formZ i.op == 1, false), (pre (bitsC 0 5 20), true), (pre (bitsC 0 5 15), true), (pre (bitsC 0 5 7), true), (pre (okB i.op), true)] (by kernel_rfl) (by simp [pre, bitsC, hm, hm, hq, hr, h0, h1]) w hG).of_eq (by first | (simp only [refZ, ref0Z, orW, anW, pre, bitsC, hm, hm, hq, hr, h0, h1]; rfl) | simp [refZ, ref0Z, orW, anW, pre, bitsC, hm, hm, hq, hr, h0, h1])
    · rcases Bool.eq_false_or_eq_true (formZ i.op == 3) with h2 | h2
      · exact (retP tRefForm_ok pRefEncC_ok (fuel := 1000) OIn [false, false, true, false, false] (v := .int .u32 (IntKind.u32.wrap ↑(BitVec.ofInt 32 (IntKind.u32.wrap ↑(BitVec.ofInt 32 (IntKind.u32.wrap ↑(BitVec.ofInt 32 (IntKind.u32.wrap ↑(BitVec.ofInt 32 (wordZ i.op) ||| BitVec.ofInt 32 (bitsZ i.rd 0 5 7)).toNat) ||| BitVec.ofInt 32 (bitsZ i.a 0 5 15)).toNat) ||| BitVec.ofInt 32 (bitsZ i.b 0 5 20)).toNat) ||| BitVec.ofInt 32 (bitsZ i.imm 0 12 20)).toNat)) [(i.rl, false), (i.aq, false), (pre (bitsC 0 12 20), true), (formZ i.op == 3, true), (formZ i.op == 2, false), (formZ i.op == 1, false), (pre (bitsC 0 5 20), true), (pre (bitsC 0 5 15), true), (pre (bitsC 0 5 7), true), (pre (okB i.op), true)] (by kernel_rfl) (by simp [pre, bitsC, hm, hm, hq, hr, h0, h1, h2]) w hG).of_eq (by first | (simp only [refZ, ref0Z, orW, anW, pre, bitsC, hm, hm, hq, hr, h0, h1, h2]; rfl) | simp [refZ, ref0Z, orW, anW, pre, bitsC, hm, hm, hq, hr, h0, h1, h2])
      · rcases Bool.eq_false_or_eq_true (formZ i.op == 4) with h3 | h3
        · exact (retP tRefForm_ok pRefEncC_ok (fuel := 1000) OIn [false, false, false, true, false, false] (v := .int .u32 (IntKind.u32.wrap ↑(BitVec.ofInt 32 (IntKind.u32.wrap ↑(BitVec.ofInt 32 (IntKind.u32.wrap ↑(BitVec.ofInt 32 (IntKind.u32.wrap ↑(BitVec.ofInt 32 (IntKind.u32.wrap ↑(BitVec.ofInt 32 (IntKind.u32.wrap ↑(BitVec.ofInt 32 (IntKind.u32.wrap ↑(BitVec.ofInt 32 (IntKind.u32.wrap ↑(BitVec.ofInt 32 (wordZ i.op) ||| BitVec.ofInt 32 (bitsZ i.rd 0 5 7)).toNat) ||| BitVec.ofInt 32 (bitsZ i.a 0 5 15)).toNat) ||| BitVec.ofInt 32 (bitsZ i.b 0 5 20)).toNat) &&& ~~~BitVec.ofInt 32 (bitsZ (-1) 0 5 7)).toNat) ||| BitVec.ofInt 32 (bitsZ i.imm 12 1 31)).toNat) ||| BitVec.ofInt 32 (bitsZ i.imm 5 6 25)).toNat) ||| BitVec.ofInt 32 (bitsZ i.imm 1 4 8)).toNat) ||| BitVec.ofInt 32 (bitsZ i.imm 11 1 7)).toNat)) [(i.rl, false), (i.aq, false), (pre (bitsC 11 1 7), true), (pre (bitsC 1 4 8), true), (pre (bitsC 5 6 25), true), (pre (bitsC 12 1 31), true), (pre (bitsC 0 5 7), true), (formZ i.op == 4, true), (formZ i.op == 3, false), (formZ i.op == 2, false), (formZ i.op == 1, false), (pre (bitsC 0 5 20), true), (pre (bitsC 0 5 15), true), (pre (bitsC 0 5 7), true), (pre (okB i.op), true)] (by kernel_rfl) (by simp [pre, bitsC, hm, hm, hq, hr, h0, h1, h2, h3]) w hG).of_eq (by first | (simp only [refZ, ref0Z, orW, anW, pre, bitsC, hm, hm, hq, hr, h0, h1, h2, h3]; rfl) | simp [refZ, ref0Z, orW, anW, pre, bitsC, hm, hm, hq, hr, h0, h1, h2, h3])
        · rcases Bool.eq_false_or_eq_true (formZ i.op == 5) with h4 | h4
          · exact (retP tRefForm_ok pRefEncC_ok (fuel := 1000) OIn [false, false, false, false, true, false, false] (v := .int .u32 (IntKind.u32.wrap ↑(BitVec.ofInt 32 (IntKind.u32.wrap ↑(BitVec.ofInt 32 (IntKind.u32.wrap ↑(BitVec.ofInt 32 (IntKind.u32.wrap ↑(BitVec.ofInt 32 (IntKind.u32.wrap ↑(BitVec.ofInt 32 (IntKind.u32.wrap ↑(BitVec.ofInt 32 (wordZ i.op) ||| BitVec.ofInt 32 (bitsZ i.rd 0 5 7)).toNat) ||| BitVec.ofInt 32 (bitsZ i.a 0 5 15)).toNat) ||| BitVec.ofInt 32 (bitsZ i.b 0 5 20)).toNat) &&& ~~~BitVec.ofInt 32 (bitsZ (-1) 0 5 7)).toNat) ||| BitVec.ofInt 32 (bitsZ i.imm 5 7 25)).toNat) ||| BitVec.ofInt 32 (bitsZ i.imm 0 5 7)).toNat)) [(i.rl, false), (i.aq, false), (pre (bitsC 0 5 7), true), (pre (bitsC 5 7 25), true), (pre (bitsC 0 5 7), true), (formZ i.op == 5, true), (formZ i.op == 4, false), (formZ i.op == 3, false), (formZ i.op == 2, false), (formZ i.op == 1, false), (pre (bitsC 0 5 20), true), (pre (bitsC 0 5 15), true), (pre (bitsC 0 5 7), true), (pre (okB i.op), true)] (by kernel_rfl) (by simp [pre, bitsC, hm, hm, hq, hr, h0, h1, h2, h3, h4]) w hG).of_eq (by first | (simp only [refZ, ref0Z, orW, anW, pre, bitsC, hm, hm, hq, hr, h0, h1, h2, h3, h4]; rfl) | simp [refZ, ref0Z, orW, anW, pre, bitsC, hm, hm, hq, hr, h0, h1, h2, h3, h4])
          · rcases Bool.eq_false_or_eq_true (formZ i.op == 7) with h5 | h5
            · exact (retP tRefForm_ok pRefEncC_ok (fuel := 1000) OIn [false, false, false, false, false, true, false, false] (v := .int .u32 (IntKind.u32.wrap ↑(BitVec.ofInt 32 (IntKind.u32.wrap ↑(BitVec.ofInt 32 (IntKind.u32.wrap ↑(BitVec.ofInt 32 (IntKind.u32.wrap ↑(BitVec.ofInt 32 (wordZ i.op) ||| BitVec.ofInt 32 (bitsZ i.rd 0 5 7)).toNat) ||| BitVec.ofInt 32 (bitsZ i.a 0 5 15)).toNat) ||| BitVec.ofInt 32 (bitsZ i.b 0 5 20)).toNat) ||| BitVec.ofInt 32 (bitsZ i.imm 0 6 20)).toNat)) [(i.rl, false), (i.aq, false), (pre (bitsC 0 6 20), true), (formZ i.op == 7, true), (formZ i.op == 5, false), (formZ i.op == 4, false), (formZ i.op == 3, false), (formZ i.op == 2, false), (formZ i.op == 1, false), (pre (bitsC 0 5 20), true), (pre (bitsC 0 5 15), true), (pre (bitsC 0 5 7), true), (pre (okB i.op), true)] (by kernel_rfl) (by simp [pre, bitsC, hm, hm, hq, hr, h0, h1, h2, h3, h4, h5]) w hG).of_eq (by first | (simp only [refZ, ref0Z, orW, anW, pre, bitsC, hm, hm, hq, hr, h0, h1, h2, h3, h4, h5]; rfl) | simp [refZ, ref0Z, orW, anW, pre, bitsC, hm, hm, hq, hr, h0, h1, h2, h3, h4, h5])
            · rcases Bool.eq_false_or_eq_true (formZ i.op == 8) with h6 | h6
              · exact (retP tRefForm_ok pRefEncC_ok (fuel := 1000) OIn [false, false, false, false, false, false, true, false, false] (v := .int .u32 (IntKind.u32.wrap ↑(BitVec.ofInt 32 (IntKind.u32.wrap ↑(BitVec.ofInt 32 (IntKind.u32.wrap ↑(BitVec.ofInt 32 (IntKind.u32.wrap ↑(BitVec.ofInt 32 (wordZ i.op) ||| BitVec.ofInt 32 (bitsZ i.rd 0 5 7)).toNat) ||| BitVec.ofInt 32 (bitsZ i.a 0 5 15)).toNat) ||| BitVec.ofInt 32 (bitsZ i.b 0 5 20)).toNat) ||| BitVec.ofInt 32 (bitsZ i.imm 0 5 20)).toNat)) [(i.rl, false), (i.aq, false), (pre (bitsC 0 5 20), true), (formZ i.op == 8, true), (formZ i.op == 7, false), (formZ i.op == 5, false), (formZ i.op == 4, false), (formZ i.op == 3, false), (formZ i.op == 2, false), (formZ i.op == 1, false), (pre (bitsC 0 5 20), true), (pre (bitsC 0 5 15), true), (pre (bitsC 0 5 7), true), (pre (okB i.op), true)] (by kernel_rfl) (by simp [pre, bitsC, hm, hm, hq, hr, h0, h1, h2, h3, h4, h5, h6]) w hG).of_eq (by first | (simp only [refZ, ref0Z, orW, anW, pre, bitsC, hm, hm, hq, hr, h0, h1, h2, h3, h4, h5, h6]; rfl) | simp [refZ, ref0Z, orW, anW, pre, bitsC, hm, hm, hq, hr, h0, h1, h2, h3, h4, h5, h6])
              · rcases Bool.eq_false_or_eq_true (formZ i.op == 9) with h7 | h7
                · exact (retP tRefForm_ok pRefEncC_ok (fuel := 1000) OIn [false, false, false, false, false, false, false, true, false, false] (v := .int .u32 (IntKind.u32.wrap ↑(BitVec.ofInt 32 (IntKind.u32.wrap ↑(BitVec.ofInt 32 (IntKind.u32.wrap ↑(BitVec.ofInt 32 (IntKind.u32.wrap ↑(BitVec.ofInt 32 (wordZ i.op) ||| BitVec.ofInt 32 (bitsZ i.rd 0 5 7)).toNat) ||| BitVec.ofInt 32 (bitsZ i.a 0 5 15)).toNat) ||| BitVec.ofInt 32 (bitsZ i.b 0 5 20)).toNat) ||| BitVec.ofInt 32 (bitsZ i.imm 0 8 20)).toNat)) [(i.rl, false), (i.aq, false), (pre (bitsC 0 8 20), true), (formZ i.op == 9, true), (formZ i.op == 8, false), (formZ i.op == 7, false), (formZ i.op == 5, false), (formZ i.op == 4, false), (formZ i.op == 3, false), (formZ i.op == 2, false), (formZ i.op == 1, false), (pre (bitsC 0 5 20), true), (pre (bitsC 0 5 15), true), (pre (bitsC 0 5 7), true), (pre (okB i.op), true)] (by kernel_rfl) (by simp [pre, bitsC, hm, hm, hq, hr, h0, h1, h2, h3, h4, h5, h6, h7]) w hG).of_eq (by first | (simp only [refZ, ref0Z, orW, anW, pre, bitsC, hm, hm, hq, hr, h0, h1, h2, h3, h4, h5, h6, h7]; rfl) | simp [refZ, ref0Z, orW, anW, pre, bitsC, hm, hm, hq, hr, h0, h1, h2, h3, h4, h5, h6, h7])
                · exact (retP tRefForm_ok pRefEncC_ok (fuel := 1000) OIn [false, false, false, false, false, false, false, false, false, false] (v := .int .u32 (IntKind.u32.wrap ↑(BitVec.ofInt 32 (IntKind.u32.wrap ↑(BitVec.ofInt 32 (IntKind.u32.wrap ↑(BitVec.ofInt 32 (wordZ i.op) ||| BitVec.ofInt 32 (bitsZ i.rd 0 5 7)).toNat) ||| BitVec.ofInt 32 (bitsZ i.a 0 5 15)).toNat) ||| BitVec.ofInt 32 (bitsZ i.b 0 5 20)).toNat)) [(i.rl, false), (i.aq, false), (formZ i.op == 9, false), (formZ i.op == 8, false), (formZ i.op == 7, false), (formZ i.op == 5, false), (formZ i.op == 4, false), (formZ i.op == 3, false), (formZ i.op == 2, false), (formZ i.op == 1, false), (pre (bitsC 0 5 20), true), (pre (bitsC 0 5 15), true), (pre (bitsC 0 5 7), true), (pre (okB i.op), true)] (by kernel_rfl) (by simp [pre, bitsC, hm, hm, hq, hr, h0, h1, h2, h3, h4, h5, h6, h7]) w hG).of_eq (by first | (simp only [refZ, ref0Z, orW, anW, pre, bitsC, hm, hm, hq, hr, h0, h1, h2, h3, h4, h5, h6, h7]; rfl) | simp [refZ, ref0Z, orW, anW, pre, bitsC, hm, hm, hq, hr, h0, h1, h2, h3, h4, h5, h6, h7])
theorem refEncode_order {gl : Gl} (i : In) (hm : okB i.op = true) (k1 : (formZ i.op == 1) = false) (k2 : (formZ i.op == 2) = false) (k3 : (formZ i.op == 3) = false) (k4 : (formZ i.op == 4) = false) (k5 : (formZ i.op == 5) = false) (k7 : (formZ i.op == 7) = false) (k8 : (formZ i.op == 8) = false) (k9 : (formZ i.op == 9) = false) (w : World) (hG : GlobOk gl w) :
    Ret Tryd.prog 11 #[inV i] (.int .u32 (bif i.rl then orW (bif i.aq then orW (ref0Z i) 67108864 else ref0Z i) 33554432 else bif i.aq then orW (ref0Z i) 67108864 else ref0Z i)) w := by
  rcases Bool.eq_false_or_eq_true (i.aq) with h8 | h8
  · rcases Bool.eq_false_or_eq_true (i.rl) with h9 | h9
    · exact (retP tRefForm_ok pRefEncC_ok (fuel := 1000) OIn [false, false, false, false, false, false, false, false, true, true] (v := .int .u32 (IntKind.u32.wrap ↑(BitVec.ofInt 32 (IntKind.u32.wrap ↑(BitVec.ofInt 32 (IntKind.u32.wrap ↑(BitVec.ofInt 32 (IntKind.u32.wrap ↑(BitVec.ofInt 32 (IntKind.u32.wrap ↑(BitVec.ofInt 32 (wordZ i.op) ||| BitVec.ofInt 32 (bitsZ i.rd 0 5 7)).toNat) ||| BitVec.ofInt 32 (bitsZ i.a 0 5 15)).toNat) ||| BitVec.ofInt 32 (bitsZ i.b 0 5 20)).toNat) ||| BitVec.ofInt 32 67108864).toNat) ||| BitVec.ofInt 32 33554432).toNat)) [(i.rl, true), (i.aq, true), (formZ i.op == 9, false), (formZ i.op == 8, false), (formZ i.op == 7, false), (formZ i.op == 5, false), (formZ i.op == 4, false), (formZ i.op == 3, false), (formZ i.op == 2, false), (formZ i.op == 1, false), (pre (bitsC 0 5 20), true), (pre (bitsC 0 5 15), true), (pre (bitsC 0 5 7), true), (pre (okB i.op), true)] (by kernel_rfl) (by simp [pre, bitsC, hm, hm, k1, k2, k3, k4, k5, k7, k8, k9, h8, h9]) w hG).of_eq (by first | (simp only [ref0Z, orW, anW, pre, bitsC, hm, hm, k1, k2, k3, k4, k5, k7, k8, k9, h8, h9]; rfl) | simp [ref0Z, orW, anW, pre, bitsC, hm, hm, k1, k2, k3, k4, k5, k7, k8, k9, h8, h9])
    · exact (retP tRefForm_ok pRefEncC_ok (fuel := 1000) OIn [false, false, false, false, false, false, false, false, true, false] (v := .int .u32 (IntKind.u32.wrap ↑(BitVec.ofInt 32 (IntKind.u32.wrap ↑(BitVec.ofInt 32 (IntKind.u32.wrap ↑(BitVec.ofInt 32 (IntKind.u32.wrap ↑(BitVec.ofInt 32 (wordZ i.op) ||| BitVec.ofInt 32 (bitsZ i.rd 0 5 7)).toNat) ||| BitVec.ofInt 32 (bitsZ i.a 0 5 15)).toNat) ||| BitVec.ofInt 32 (bitsZ i.b 0 5 20)).toNat) ||| BitVec.ofInt 32 67108864).toNat)) [(i.rl, false), (i.aq, true), (formZ i.op == 9, false), (formZ i.op == 8, false), (formZ i.op == 7, false), (formZ i.op == 5, false), (formZ i.op == 4, false), (formZ i.op == 3, false), (formZ i.op == 2, false), (formZ i.op == 1, false), (pre (bitsC 0 5 20), true), (pre (bitsC 0 5 15), true), (pre (bitsC 0 5 7), true), (pre (okB i.op), true)] (by kernel_rfl) (by simp [pre, bitsC, hm, hm, k1, k2, k3, k4, k5, k7, k8, k9, h8, h9]) w hG).of_eq (by first | (simp only [ref0Z, orW, anW, pre, bitsC, hm, hm, k1, k2, k3, k4, k5, k7, k8, k9, h8, h9]; rfl) | simp [ref0Z, orW, anW, pre, bitsC, hm, hm, k1, k2, k3, k4, k5, k7, k8, k9, h8, h9])
  · rcases Bool.eq_false_or_eq_true (i.rl) with h9 | h9
    · exact (retP tRefForm_ok pRefEncC_ok (fuel := 1000) OIn [false, false, false, false, false, false, false, false, false, true] (v := .int .u32 (IntKind.u32.wrap ↑(BitVec.ofInt 32 (IntKind.u32.wrap ↑(BitVec.ofInt 32 (IntKind.u32.wrap ↑(BitVec.ofInt 32 (IntKind.u32.wrap ↑(BitVec.ofInt 32 (wordZ i.op) ||| BitVec.ofInt 32 (bitsZ i.rd 0 5 7)).toNat) ||| BitVec.ofInt 32 (bitsZ i.a 0 5 15)).toNat) ||| BitVec.ofInt 32 (bitsZ i.b 0 5 20)).toNat) ||| BitVec.ofInt 32 33554432).toNat)) [(i.rl, true), (i.aq, false), (formZ i.op == 9, false), (formZ i.op == 8, false), (formZ i.op == 7, false), (formZ i.op == 5, false), (formZ i.op == 4, false), (formZ i.op == 3, false), (formZ i.op == 2, false), (formZ i.op == 1, false), (pre (bitsC 0 5 20), true), (pre (bitsC 0 5 15), true), (pre (bitsC 0 5 7), true), (pre (okB i.op), true)] (by kernel_rfl) (by simp [pre, bitsC, hm, hm, k1, k2, k3, k4, k5, k7, k8, k9, h8, h9]) w hG).of_eq (by first | (simp only [ref0Z, orW, anW, pre, bitsC, hm, hm, k1, k2, k3, k4, k5, k7, k8, k9, h8, h9]; rfl) | simp [ref0Z, orW, anW, pre, bitsC, hm, hm, k1, k2, k3, k4, k5, k7, k8, k9, h8, h9])
    · exact (retP tRefForm_ok pRefEncC_ok (fuel := 1000) OIn [false, false, false, false, false, false, false, false, false, false] (v := .int .u32 (IntKind.u32.wrap ↑(BitVec.ofInt 32 (IntKind.u32.wrap ↑(BitVec.ofInt 32 (IntKind.u32.wrap ↑(BitVec.ofInt 32 (wordZ i.op) ||| BitVec.ofInt 32 (bitsZ i.rd 0 5 7)).toNat) ||| BitVec.ofInt 32 (bitsZ i.a 0 5 15)).toNat) ||| BitVec.ofInt 32 (bitsZ i.b 0 5 20)).toNat)) [(i.rl, false), (i.aq, false), (formZ i.op == 9, false), (formZ i.op == 8, false), (formZ i.op == 7, false), (formZ i.op == 5, false), (formZ i.op == 4, false), (formZ i.op == 3, false), (formZ i.op == 2, false), (formZ i.op == 1, false), (pre (bitsC 0 5 20), true), (pre (bitsC 0 5 15), true), (pre (bitsC 0 5 7), true), (pre (okB i.op), true)] (by kernel_rfl) (by simp [pre, bitsC, hm, hm, k1, k2, k3, k4, k5, k7, k8, k9, h8, h9]) w hG).of_eq (by first | (simp only [ref0Z, orW, anW, pre, bitsC, hm, hm, k1, k2, k3, k4, k5, k7, k8, k9, h8, h9]; rfl) | simp [ref0Z, orW, anW, pre, bitsC, hm, hm, k1, k2, k3, k4, k5, k7, k8, k9, h8, h9])
theorem orW_nat (a b : Nat) (ha : a < 4294967296) (hb : b < 4294967296) : orW (a : Int) (b : Int) = ((a ||| b : Nat) : Int) := u32_or_nat a b ha hb
theorem anW_nat (a b : Nat) (ha : a < 4294967296) (hb : b < 4294967296) : anW (a : Int) (b : Int) = ((a &&& (4294967295 - b) : Nat) : Int) := u32_andNot_nat a b ha hb
theorem u64_part (v : Int) (f c : Nat) (h : f + c ≤ 64) : ((u64N v / 2 ^ f % 2 ^ c : Nat) : Int) = v / ((2 ^ f : Nat) : Int) % ((2 ^ c : Nat) : Int) := by
  have e : ((u64N v : Nat) : Int) = v % 18446744073709551616 := by unfold u64N; omega
  have hM : (18446744073709551616 : Int) = ((2 ^ f : Nat) : Int) * (((2 ^ c : Nat) : Int) * ((2 ^ (64 - f - c) : Nat) : Int)) := by
    rw [← Int.natCast_mul, ← Int.natCast_mul, ← Nat.pow_add, ← Nat.pow_add, show f + (c + (64 - f - c)) = 64 by omega]; rfl
  have hp : ((2 ^ f : Nat) : Int) ≠ 0 := by have := Nat.two_pow_pos f; omega
  rw [Int.natCast_emod, Int.natCast_ediv, e, Int.emod_def v, hM]
  generalize ((2 ^ f : Nat) : Int) = p at *
  generalize ((2 ^ c : Nat) : Int) = q at *
  generalize ((2 ^ (64 - f - c) : Nat) : Int) = r at *
  generalize v / (p * (q * r)) = k
  have e2 : v - p * (q * r) * k = v + (-(q * (r * k))) * p := by
    rw [Int.neg_mul, Int.sub_eq_add_neg, Int.mul_assoc, Int.mul_assoc, Int.mul_comm p]
  rw [e2, Int.add_mul_ediv_right _ _ hp, Int.add_neg_mul_emod_self_left]
theorem or_step (x v f c a p q r : Int) (hp : (((2 ^ f.toNat : Nat) : Int) = p) ∧ (((2 ^ c.toNat : Nat) : Int) = q) ∧ (((2 ^ a.toNat : Nat) : Int) = r) ∧ f.toNat + c.toNat ≤ 64 ∧ a.toNat + c.toNat ≤ 32) (x0 : 0 ≤ x) (x1 : x < 4294967296) (hz : x / r % q = 0) : orW x (bitsZ v f c a) = x + v / p % q * r := by
  obtain ⟨hp, hq, hr, h3, h4⟩ := hp
  rw [bitsZ_eq]
  generalize a.toNat = a' at *
  generalize c.toNat = c' at *
  generalize f.toNat = f' at *
  obtain ⟨X, rfl⟩ := Int.eq_ofNat_of_zero_le x0
  have hu := u64_part v f' c' h3
  rw [hp, hq] at hu
  have hlt : partN (u64N v) f' c' a' < 4294967296 := val_top a' c' _ h4
  have hz' : X / 2 ^ a' % 2 ^ c' = 0 := by rw [← hq, ← hr] at hz; exact_mod_cast hz
  rw [Nat.mod_eq_of_lt hlt, orW_nat _ _ (by omega) hlt]
  unfold partN
  rw [or_field X a' c' _ (Nat.mod_lt _ (Nat.two_pow_pos c')) hz', Int.natCast_add, Int.natCast_mul, hu, hr]
theorem an_step (x v f c a q r : Int) (hp : (((2 ^ c.toNat : Nat) : Int) = q) ∧ (((2 ^ a.toNat : Nat) : Int) = r) ∧ a.toNat + c.toNat ≤ 32) (hv : bitsZ v f c a = (q - 1) * r) (x0 : 0 ≤ x) (x1 : x < 4294967296) (hz : x / r % q = 0) : anW x (bitsZ v f c a) = x := by
  obtain ⟨hq, hr, h4⟩ := hp
  rw [hv]
  generalize a.toNat = a' at *
  generalize c.toNat = c' at *
  obtain ⟨X, rfl⟩ := Int.eq_ofNat_of_zero_le x0
  have hz' : X / 2 ^ a' % 2 ^ c' = 0 := by rw [← hq, ← hr] at hz; exact_mod_cast hz
  have hpos := Nat.two_pow_pos c'
  have e : (q - 1) * r = (((2 ^ c' - 1) * 2 ^ a' : Nat) : Int) := by rw [Int.natCast_mul, Int.natCast_sub hpos, hq, hr]; rfl
  have ht := field_top a' c' h4
  have := put_or X a' c' 0 (by omega) h4 hz'
  unfold putF at this
  rw [Nat.zero_mod, Nat.zero_mul, Nat.or_zero, Nat.add_zero] at this
  rw [e, anW_nat _ _ (by omega) ht, this]
theorem bits_31 : bitsZ (-1) 0 5 7 = (32 - 1) * 128 := by rw [bitsZ_eq]; decide +kernel
theorem or_one (x p : Int) (k : Nat) (hp : ((2 ^ k : Nat) : Int) = p ∧ k < 32) (x0 : 0 ≤ x) (x1 : x < 4294967296) (hz : x / p % 2 = 0) : orW x p = x + p := by
  obtain ⟨hp, hk⟩ := hp
  obtain ⟨X, rfl⟩ := Int.eq_ofNat_of_zero_le x0
  have hz' : X / 2 ^ k % 2 ^ 1 = 0 := by rw [← hp] at hz; exact_mod_cast hz
  have hlt : 2 ^ k < 4294967296 := Nat.pow_lt_pow_right (n := 32) (by omega) hk
  have := or_field X k 1 1 (by omega) hz'
  rw [Nat.one_mul] at this
  rw [← hp, orW_nat _ _ (by omega) hlt, this, Int.natCast_add]
theorem ref0_enc (W rd a b : Int) (h0 : 0 ≤ W) (h1 : W < 4294967296) (h2 : rd = 0 ∨ W / 128 % 32 = 0) (h3 : a = 0 ∨ W / 32768 % 32 = 0) (h4 : b = 0 ∨ W / 1048576 % 32 = 0) (r0 : 0 ≤ rd) (r1 : rd ≤ 31) (a0 : 0 ≤ a) (a1 : a ≤ 31) (b0 : 0 ≤ b) (b1 : b ≤ 31) :
    orW (orW (orW W (bitsZ rd 0 5 7)) (bitsZ a 0 5 15)) (bitsZ b 0 5 20) = W + rd * 128 + a * 32768 + b * 1048576 := by
  have z : ∀ x a, 0 ≤ x → x < 4294967296 → orW x (bitsZ 0 0 5 a) = x := fun x a x0 x1 => by
    obtain ⟨X, rfl⟩ := Int.eq_ofNat_of_zero_le x0
    have : bitsZ 0 0 5 a = ((0 : Nat) : Int) := by rw [bitsZ_eq]; simp [partN, u64N]
    rw [this, orW_nat _ _ (by omega) (by omega), Nat.or_zero]
  have e1 : orW W (bitsZ rd 0 5 7) = W + rd * 128 := by
    rcases h2 with rfl | h2
    · rw [z W 7 h0 h1]; omega
    · rw [or_step W rd 0 5 7 1 32 128 (by decide) h0 h1 h2]; omega
  have hlt : W + rd * 128 < 4294967296 := by rcases h2 with rfl | h2 <;> omega
  have e2 : orW (W + rd * 128) (bitsZ a 0 5 15) = W + rd * 128 + a * 32768 := by
    rcases h3 with rfl | h3
    · rw [z _ 15 (by omega) hlt]; omega
    · rw [or_step _ a 0 5 15 1 32 32768 (by decide) (by omega) hlt (by rcases h2 with rfl | h2 <;> omega)]; omega
  have hlt2 : W + rd * 128 + a * 32768 < 4294967296 := by rcases h2 with rfl | h2 <;> rcases h3 with rfl | h3 <;> omega
  rw [e1, e2]
  rcases h4 with rfl | h4
  · rw [z _ 20 (by omega) hlt2]; omega
  · rw [or_step _ b 0 5 20 1 32 1048576 (by decide) (by omega) hlt2 (by rcases h2 with rfl | h2 <;> rcases h3 with rfl | h3 <;> omega)]; omega
theorem ref_enc (i : In) (hm : mayB i = true) : (bif i.rl then orW (bif i.aq then orW (refZ i) 67108864 else refZ i) 33554432 else bif i.aq then orW (refZ i) 67108864 else refZ i) = encZ i := by
  have hk := form_rng (may_ok hm)
  have F := may_fld hm
  have hI := imm_rng F.im hk.1 hk.2
  obtain ⟨r0, r1, rn, a0, a1, an, b0, b1, bn, _, on, wd⟩ := F
  obtain ⟨op, rd, a, b, imm, aq, rl⟩ := i
  have hk' : formZ op = 0 ∨ formZ op = 1 ∨ formZ op = 2 ∨ formZ op = 3 ∨ formZ op = 4 ∨ formZ op = 5 ∨ formZ op = 6 ∨ formZ op = 7 ∨ formZ op = 8 ∨ formZ op = 9 ∨ formZ op = 10 ∨ formZ op = 11 := by simp at hk; omega
  unfold encZ refZ ref0Z
  simp only at *
  clear hm
  generalize wordZ op = W at *
  unfold immRg at hI
  generalize formZ op = k at *
  have H0 := ref0_enc W rd a b
  rcases hk' with rfl | rfl | rfl | rfl | rfl | rfl | rfl | rfl | rfl | rfl | rfl | rfl
  all_goals
    simp [wordOk] at wd hI
    simp [rdF, aF, bF, oF, atZ] at rn an bn on
    rw [H0 (by omega) (by omega) (by omega) (by omega) (by omega) r0 r1 a0 a1 b0 b1]
    clear H0
    simp only [immZ]
    simp
  · obtain ⟨rfl, rfl⟩ := on
    simp [b01, hI]
  · obtain ⟨rfl, rfl⟩ := on
    subst an bn
    simp only [cond_false, b01]
    rw [or_step _ imm 0 20 12 1 1048576 4096 (by decide) (by omega) (by omega) (by omega)]; omega
  · obtain ⟨rfl, rfl⟩ := on
    subst an bn
    simp only [cond_false, b01]
    obtain ⟨s, p, q, r, f1, f2, f3, f4, f5, s0, s1, p0, p1, q0', q1', r0', r1'⟩ := parts_j imm (by omega) (by omega) (by omega)
    rw [or_step _ imm 20 1 31 1048576 2 2147483648 (by decide) (by omega) (by omega) (by omega), f1,
      or_step _ imm 1 10 21 2 1024 2097152 (by decide) (by clear f1 f2 f3 f4 f5 hI; omega) (by clear f1 f2 f3 f4 f5 hI; omega) (by clear f1 f2 f3 f4 f5 hI; omega), f4,
      or_step _ imm 11 1 20 2048 2 1048576 (by decide) (by clear f1 f2 f3 f4 f5 hI; omega) (by clear f1 f2 f3 f4 f5 hI; omega) (by clear f1 f2 f3 f4 f5 hI; omega), f3,
      or_step _ imm 12 8 12 4096 256 4096 (by decide) (by clear f1 f2 f3 f4 f5 hI; omega) (by clear f1 f2 f3 f4 f5 hI; omega) (by clear f1 f2 f3 f4 f5 hI; omega), f2]
    clear f1 f2 f3 f4 f5 hI; omega
  · obtain ⟨rfl, rfl⟩ := on
    subst bn
    simp only [cond_false, b01]
    obtain ⟨o, f, rfl, o0, o1, g0, g1⟩ := parts_w W (by omega) (by omega) (by omega)
    clear wd
    rw [or_step _ imm 0 12 20 1 4096 1048576 (by decide) (by omega) (by omega) (by omega)]; omega
  · obtain ⟨rfl, rfl⟩ := on
    subst rn
    simp only [cond_false, b01]
    obtain ⟨s, p, q, r, f1, f2, f3, f4, f5, s0, s1, p0, p1, q0', q1', r0', r1'⟩ := parts_b imm (by omega) (by omega) (by omega)
    obtain ⟨o, f, rfl, o0, o1, g0, g1⟩ := parts_w W (by omega) (by omega) (by omega)
    clear wd hI
    rw [an_step _ (-1) 0 5 7 32 128 (by decide) bits_31 (by omega) (by omega) (by omega),
      or_step _ imm 12 1 31 4096 2 2147483648 (by decide) (by omega) (by omega) (by omega), f1,
      or_step _ imm 5 6 25 32 64 33554432 (by decide) (by clear f1 f2 f3 f4 f5; omega) (by clear f1 f2 f3 f4 f5; omega) (by clear f1 f2 f3 f4 f5; omega), f3,
      or_step _ imm 1 4 8 2 16 256 (by decide) (by clear f1 f2 f3 f4 f5; omega) (by clear f1 f2 f3 f4 f5; omega) (by clear f1 f2 f3 f4 f5; omega), f4,
      or_step _ imm 11 1 7 2048 2 128 (by decide) (by clear f1 f2 f3 f4 f5; omega) (by clear f1 f2 f3 f4 f5; omega) (by clear f1 f2 f3 f4 f5; omega), f2]
    clear f1 f2 f3 f4 f5; omega
  · obtain ⟨rfl, rfl⟩ := on
    subst rn
    simp only [cond_false, b01]
    obtain ⟨o, f, rfl, o0, o1, g0, g1⟩ := parts_w W (by omega) (by omega) (by omega)
    clear wd
    rw [an_step _ (-1) 0 5 7 32 128 (by decide) bits_31 (by omega) (by omega) (by omega),
      or_step _ imm 5 7 25 32 128 33554432 (by decide) (by omega) (by omega) (by omega),
      or_step _ imm 0 5 7 1 32 128 (by decide) (by omega) (by omega) (by omega)]; omega
  · obtain ⟨rfl, rfl⟩ := on
    simp [b01]
  · obtain ⟨rfl, rfl⟩ := on
    subst bn
    simp only [cond_false, b01]
    rw [or_step _ imm 0 6 20 1 64 1048576 (by decide) (by omega) (by omega) (by omega)]; omega
  · obtain ⟨rfl, rfl⟩ := on
    subst bn
    simp only [cond_false, b01]
    rw [or_step _ imm 0 5 20 1 32 1048576 (by decide) (by omega) (by omega) (by omega)]; omega
  · obtain ⟨rfl, rfl⟩ := on
    subst rn an bn
    simp only [cond_false, b01]
    rw [or_step _ imm 0 8 20 1 256 1048576 (by decide) (by omega) (by omega) (by omega)]; omega
  all_goals
    obtain ⟨o, f, g, rfl, o0, o1, g0, g1, g2, g3⟩ := parts_w2 W 4096 134217728 (by omega) (by omega) (by omega) (by omega) (by omega)
    clear wd
    cases aq <;> cases rl <;> simp only [cond_true, cond_false, b01]
    · omega
    · rw [or_one _ 33554432 25 (by decide) (by omega) (by omega) (by omega)]; omega
    · rw [or_one _ 67108864 26 (by decide) (by omega) (by omega) (by omega)]; omega
    · rw [or_one _ 67108864 26 (by decide) (by omega) (by omega) (by omega), or_one _ 33554432 25 (by decide) (by omega) (by omega) (by omega)]; omega
theorem refEncode_ret {gl : Gl} (i : In) (hm : mayB i = true) (w : World) (hG : GlobOk gl w) : Ret Tryd.prog 11 #[inV i] (.int .u32 (encZ i)) w := by
  have e := ref_enc i hm
  have hn := (may_fld hm).aq
  cases ho : oF (formZ i.op)
  · obtain ⟨h1, h2⟩ := hn ho
    rw [h1, h2] at e
    exact (refEncode_plain i (may_ok hm) h1 h2 w hG).of_eq (by rw [← e]; rfl)
  · have hk := form_rng (may_ok hm)
    have hk' : formZ i.op = 10 ∨ formZ i.op = 11 := by
      have : formZ i.op = 0 ∨ formZ i.op = 1 ∨ formZ i.op = 2 ∨ formZ i.op = 3 ∨ formZ i.op = 4 ∨ formZ i.op = 5 ∨ formZ i.op = 6 ∨ formZ i.op = 7 ∨ formZ i.op = 8 ∨ formZ i.op = 9 ∨ formZ i.op = 10 ∨ formZ i.op = 11 := by omega
      rcases this with h | h | h | h | h | h | h | h | h | h | h | h
      all_goals first | (exact .inl h) | (exact .inr h) | (rw [h] at ho; simp [oF, atZ] at ho)
    have e0 : refZ i = ref0Z i := by rcases hk' with h | h <;> simp [refZ, h]
    rw [e0] at e
    have ne : ∀ j : Int, j ≠ 10 → j ≠ 11 → (formZ i.op == j) = false := fun j h1 h2 => by rcases hk' with h | h <;> simp [h] <;> omega
    exact (refEncode_order i (may_ok hm) (ne _ (by decide) (by decide)) (ne _ (by decide) (by decide)) (ne _ (by decide) (by decide)) (ne _ (by decide) (by decide)) (ne _ (by decide) (by decide)) (ne _ (by decide) (by decide)) (ne _ (by decide) (by decide)) (ne _ (by decide) (by decide)) w hG).of_eq (by rw [← e])
end Go.Proofs.YtiajbijbhhpllaaDoor
namespace Go.Proofs.YtiajbijbhhpllaaDoor
open Go.RowKit Sim
def w32B (v : Int) : Bool := decide (0 ≤ v ∧ v < 4294967296)
theorem signZ_ex : ∃ g : Int → Int → Int, ∀ x n, g x n = signN x.toNat n.toNat := ⟨_, fun _ _ => rfl⟩
noncomputable def signZ : Int → Int → Int := Classical.choose signZ_ex
theorem signZ_eq (x n : Int) : signZ x n = signN x.toNat n.toNat := Classical.choose_spec signZ_ex x n
theorem sign_lit (x n P : Int) (hp : ((2 ^ (n.toNat - 1) : Nat) : Int) = P) (hP : P ≤ 4294967296) (x0 : 0 ≤ x) (x1 : x < 2 * P) : signZ (IntKind.u64.wrap x) n = sgn x P := by
  have hw : IntKind.u64.wrap x = x := by
    have : IntKind.u64.wrap x = x % 18446744073709551616 := rfl
    omega
  rw [hw, signZ_eq]
  obtain ⟨x, rfl⟩ := Int.eq_ofNat_of_zero_le x0
  rw [Int.toNat_natCast]
  unfold signN bitN sgn
  have hpos := Nat.two_pow_pos (n.toNat - 1)
  have hc : (2 : Int) ^ (n.toNat - 1) = ((2 ^ (n.toNat - 1) : Nat) : Int) := by push_cast; rfl
  rw [hc]
  clear hc
  generalize 2 ^ (n.toNat - 1) = Q at *
  subst hp
  rcases Nat.lt_or_ge x Q with h | h
  · have e1 : x / Q = 0 := Nat.div_eq_of_lt h
    have e2 : x % Q = x := Nat.mod_eq_of_lt h
    rw [e1, e2, if_pos (by omega)]; simp
  · have e1 : x / Q = 1 := by
      have h1 : x / Q < 2 := (Nat.div_lt_iff_lt_mul hpos).mpr (by omega)
      have h2 : 1 ≤ x / Q := (Nat.le_div_iff_mul_le hpos).mpr (by omega)
      omega
    have e2 : x % Q = x - Q := by
      have := Nat.div_add_mod x Q
      rw [e1] at this
      omega
    rw [e1, e2, if_neg (by omega)]
    have : ((x - Q : Nat) : Int) = (x : Int) - Q := by omega
    rw [this]
    simp
    omega
theorem wrap_id (x : Int) (h0 : 0 ≤ x) (h1 : x < 4294967296) : IntKind.i64.wrap x = x := IntWalk.i64_in _ (by omega)
end Go.Proofs.YtiajbijbhhpllaaDoor
namespace Go.Proofs.YtiajbijbhhpllaaDoor.S2
open Go
open Go.ChangeMaps (setBlock putKey notKey heap_setBlock_same heap_setBlock_other mem_insert_iff)
open Go.MapKept (Stamped stamped_empty)
open Go.WideElems (Fit rd rg rd_key rg_of)
open Go.Maps (Keyed fit_look fit_store int_keyed keyOf_int_mk notKey_iff)
theorem mem_srt {H : Type} {l : List (Lit × DataW H)} {p : Lit × DataW H} : p ∈ l.foldr DataW.insert [] ↔ p ∈ l := (Go.WideShapes.sorted_perm l).mem_iff
def logL : List (Int × Value) → Int → Option Value
  | [], _ => none
  | (k, v) :: r, a => bif k == a then some v else logL r a
def MapL (w : World) (b : Nat) (l : List (Int × Value)) : Prop :=
  ∃ es clock, w.heap[b]? = some (.map es clock) ∧ es.size ≤ l.length ∧ es.size ≤ maxLen ∧ Stamped es clock ∧ (∀ x ∈ es.toList, ∃ a, x.key = .int .i64 a ∧ (Lit.int .i64 a).wf = true ∧ logL l a = some x.val) ∧
    ∀ a v, logL l a = some v → ∃ x ∈ es.toList, x.key = .int .i64 a ∧ x.val = v
def allR : Value → Option (DataW Unit × List MemPlace) := fun _ => some (.nil, [])
theorem MapL.of_heap {w w' : World} {b : Nat} {l : List (Int × Value)} (h : MapL w b l) (he : w'.heap[b]? = w.heap[b]?) : MapL w' b l := by
  obtain ⟨es, clock, hb, r⟩ := h
  exact ⟨es, clock, he.trans hb, r⟩
theorem MapL.lt {w : World} {b : Nat} {l : List (Int × Value)} (h : MapL w b l) : b < w.heap.size := by
  obtain ⟨es, clock, hb, _⟩ := h
  exact (Array.getElem?_eq_some_iff.1 hb).1
theorem MapL.not_cells {w : World} {b : Nat} {l : List (Int × Value)} (h : MapL w b l) (cs : Array Value) (e : TypeId) (fz : Nat × Nat) : w.heap[b]? ≠ some (.cells cs e fz) := fun hc => by
  obtain ⟨es, clock, hb, _⟩ := h
  rw [hb] at hc; cases hc
theorem MapL_made (w : World) : MapL (w.alloc (.map #[] 0)) w.heap.size [] :=
  ⟨#[], 0, (MapKept.heap_alloc w _).1, Nat.le_refl _, by simp, stamped_empty 0, by simp, fun a v h => by cases h⟩
theorem MapL.fit {w : World} {P : Program} {k : TypeId} {b : Nat} {l : List (Int × Value)} (hk : P.underlying k = some (.int .i64)) {es : Array MapEntry} {clock : Nat} (h1 : es.size ≤ maxLen) (h2 : Stamped es clock) (h3 : ∀ x ∈ es.toList, ∃ a, x.key = .int .i64 a ∧ (Lit.int .i64 a).wf = true ∧ logL l a = some x.val) : Fit P k allR es clock :=
  ⟨h1, h2, fun x hx => by
    obtain ⟨a, ha, hw, _⟩ := h3 x hx
    exact ⟨_, by unfold rd; rw [ha, keyOf_int_mk hk hw]; rfl⟩⟩
theorem MapL.look {w : World} {P : Program} {t k e : TypeId} {b : Nat} {l : List (Int × Value)} (h : MapL w b l) (ht : P.underlying t = some (.map k e)) (hk : P.underlying k = some (.int .i64)) {z : Value} (hz : (zeroValue e).run P w = .ok z w) {a : Int} (ha : (Lit.int .i64 a).wf = true) (c : Bool) :
    (Instr.lookup t (.map (some b)) (.int .i64 a) c).run P w = .ok (if c then .tuple #[(logL l a).getD z, .bool (logL l a).isSome] else (logL l a).getD z) w := by
  obtain ⟨es, clock, hb, hs, hm, hst, h3, h4⟩ := h
  rcases fit_look c (int_keyed hk) ht hz hb (MapL.fit (w := w) (b := b) hk hm hst h3) (keyOf_int_mk hk ha) with ⟨hrun, hno, _⟩ | ⟨e0, y, hm0, hkey, hrun, _⟩
  · have : logL l a = none := by
      cases hl : logL l a with
      | none => rfl
      | some v =>
        obtain ⟨x, hx, hxk, _⟩ := h4 a v hl
        exact absurd hxk (hno x hx)
    rw [hrun, this]; rfl
  · obtain ⟨a', ha', _, hl⟩ := h3 e0 hm0
    rw [hkey] at ha'
    obtain rfl : a = a' := by injection ha'
    rw [hrun, hl]; rfl
theorem logL_put (l : List (Int × Value)) (a : Int) (v : Value) (a' : Int) : logL ((a, v) :: l) a' = if a = a' then some v else logL l a' := by
  rw [logL]
  by_cases h : a = a'
  · subst h; simp
  · have h2 : (a == a') = false := by simp [h]
    rw [h2, if_neg h]; rfl
theorem MapL.store {w : World} {P : Program} {t k e : TypeId} {b : Nat} {l : List (Int × Value)} (h : MapL w b l) (ht : P.underlying t = some (.map k e)) (hk : P.underlying k = some (.int .i64)) (hn : l.length < maxLen) {a : Int} (ha : (Lit.int .i64 a).wf = true) (v : Value) :
    ∃ o, (Instr.mapUpdate t (.map (some b)) (.int .i64 a) v).run P w = .ok () (setBlock w b o) ∧ MapL (setBlock w b o) b ((a, v) :: l) := by
  obtain ⟨es, clock, hb, hs, hm, hst, h3, h4⟩ := h
  have F := MapL.fit (w := w) (b := b) hk hm hst h3
  obtain ⟨es', clock', hrun, F', hput, _, _, hold⟩ := fit_store (R' := allR) (int_keyed hk) ht hb F (by omega) (fun _ _ _ _ hz => hz) (keyOf_int_mk hk ha) (show allR v = some (.nil, []) from rfl)
  have hkeys : ∀ x ∈ es'.toList, ∃ a', x.key = .int .i64 a' ∧ (Lit.int .i64 a').wf = true ∧ logL ((a, v) :: l) a' = some x.val := fun x hx => by
    rcases hold x hx with ⟨h1, h2⟩ | ⟨h1, h2⟩
    · obtain ⟨a', e1, e2, e3⟩ := h3 x h1
      refine ⟨a', e1, e2, ?_⟩
      rw [logL_put, if_neg (fun hc => h2 (by rw [e1, hc]))]
      exact e3
    · exact ⟨a, h1, ha, by rw [logL_put, if_pos rfl, h2]⟩
  have hrg : ∀ x a', x.key = .int .i64 a' → (Lit.int .i64 a').wf = true → rg P k allR x = (.int .i64 a', (.nil : DataW Unit)) := fun x a' hx hw => by
    have : rd P k allR x = some (.int .i64 a', (.nil : DataW Unit)) := by unfold rd; rw [hx, keyOf_int_mk hk hw]; rfl
    exact rg_of this
  have hmem : ∀ a', (Lit.int .i64 a').wf = true → ((.int .i64 a' : Lit), (.nil : DataW Unit)) ∈ putKey (.int .i64 a) .nil ((es.toList.map (rg P k allR)).foldr DataW.insert []) → ∃ x ∈ es'.toList, x.key = .int .i64 a' := fun a' hw hp => by
    rw [← hput, mem_srt] at hp
    obtain ⟨x, hx, hxe⟩ := List.mem_map.mp hp
    obtain ⟨c, c1, c2, _⟩ := hkeys x hx
    rw [hrg x c c1 c2] at hxe
    refine ⟨x, hx, ?_⟩
    rw [c1]
    injection hxe with q1 _
    injection q1 with _ q2
    rw [q2]
  refine ⟨_, hrun, es', clock', heap_setBlock_same hb _, ?_, F'.size, F'.stamped, hkeys, fun a' v' hl => ?_⟩
  · have e1 : es'.size = ((es'.toList.map (rg P k allR)).foldr DataW.insert []).length := by rw [length_sorted]; simp
    rw [e1, hput]
    unfold putKey
    rw [length_insert]
    have e2 := List.length_filter_le (notKey (.int .i64 a)) ((es.toList.map (rg P k allR)).foldr DataW.insert [])
    rw [length_sorted] at e2
    simp at e2
    simp
    omega
  · have hx : ∃ x ∈ es'.toList, x.key = .int .i64 a' := by
      rw [logL_put] at hl
      by_cases hc : a = a'
      · subst hc
        exact hmem a ha (mem_insert_iff.mpr (.inl rfl))
      · rw [if_neg hc] at hl
        obtain ⟨x, hx, hxk, _⟩ := h4 a' v' hl
        obtain ⟨c, c1, c2, _⟩ := h3 x hx
        rw [hxk] at c1
        obtain rfl : a' = c := by injection c1
        refine hmem a' c2 (mem_insert_iff.mpr (.inr (List.mem_filter.mpr ⟨mem_srt.mpr (List.mem_map.mpr ⟨x, hx, hrg x a' hxk c2⟩), ?_⟩)))
        rw [notKey_iff (k := .int .i64 a) ((int_keyed hk).key (keyOf_int_mk hk ha))]
        exact fun hq => hc (by injection hq with _ q; exact q.symm)
    obtain ⟨x, hx, hxk⟩ := hx
    obtain ⟨c, c1, _, c3⟩ := hkeys x hx
    rw [hxk] at c1
    obtain rfl : a' = c := by injection c1
    rw [hl] at c3
    exact ⟨x, hx, hxk, by injection c3 with q; exact q.symm⟩
theorem setBlock_other {w : World} {b : Nat} {l : List (Int × Value)} (h : MapL w b l) (o : Obj) (k : Nat) (hk : k ≠ b) : (setBlock w b o).heap[k]? = w.heap[k]? := by
  obtain ⟨es, clock, hb, _⟩ := h
  exact heap_setBlock_other hb o hk
theorem setBlock_size (w : World) (b : Nat) (o : Obj) : (setBlock w b o).heap.size = w.heap.size := by
  unfold setBlock; simp
noncomputable def logV : List (Value × Value) → Value → Option Value
  | [], _ => none
  | (k, v) :: r, a => @ite _ (k = a) (Classical.propDecidable _) (some v) (logV r a)
theorem logV_put (l : List (Value × Value)) (a v a' : Value) : logV ((a, v) :: l) a' = @ite _ (a = a') (Classical.propDecidable _) (some v) (logV l a') := rfl
theorem logV_same (l : List (Value × Value)) (a v : Value) : logV ((a, v) :: l) a = some v := by rw [logV_put, if_pos rfl]
theorem logV_ne (l : List (Value × Value)) {a a' : Value} (v : Value) (h : a ≠ a') : logV ((a, v) :: l) a' = logV l a' := by rw [logV_put, if_neg h]
theorem logV_mem {a v : Value} : ∀ {l : List (Value × Value)}, logV l a = some v → (a, v) ∈ l
  | [], h => by cases h
  | (k, u) :: r, h => by
    rw [logV_put] at h
    by_cases hk : k = a
    · rw [if_pos hk] at h
      obtain rfl := Option.some.inj h
      rw [hk]; exact List.mem_cons_self
    · rw [if_neg hk] at h
      exact List.mem_cons_of_mem _ (logV_mem h)
def KeysIn (P : Program) (k : TypeId) (ks : List Value) : Prop := Keyed P k ∧ ∀ a ∈ ks, ∃ l, keyOf P k a = some l
def MapV (w : World) (b : Nat) (l : List (Value × Value)) : Prop :=
  ∃ es clock, w.heap[b]? = some (.map es clock) ∧ es.size ≤ l.length ∧ es.size ≤ maxLen ∧ Stamped es clock ∧ (∀ x ∈ es.toList, logV l x.key = some x.val) ∧
    ∀ a v, logV l a = some v → ∃ x ∈ es.toList, x.key = a ∧ x.val = v
theorem MapV.of_heap {w w' : World} {b : Nat} {l : List (Value × Value)} (h : MapV w b l) (he : w'.heap[b]? = w.heap[b]?) : MapV w' b l := by
  obtain ⟨es, clock, hb, r⟩ := h
  exact ⟨es, clock, he.trans hb, r⟩
theorem MapV.lt {w : World} {b : Nat} {l : List (Value × Value)} (h : MapV w b l) : b < w.heap.size := by
  obtain ⟨es, clock, hb, _⟩ := h
  exact (Array.getElem?_eq_some_iff.1 hb).1
theorem MapV.not_cells {w : World} {b : Nat} {l : List (Value × Value)} (h : MapV w b l) (cs : Array Value) (e : TypeId) (fz : Nat × Nat) : w.heap[b]? ≠ some (.cells cs e fz) := fun hc => by
  obtain ⟨es, clock, hb, _⟩ := h
  rw [hb] at hc; cases hc
theorem MapV_made (w : World) : MapV (w.alloc (.map #[] 0)) w.heap.size [] :=
  ⟨#[], 0, (MapKept.heap_alloc w _).1, Nat.le_refl _, by simp, stamped_empty 0, by simp, fun a v h => by cases h⟩
theorem MapV.fit {P : Program} {k : TypeId} {l : List (Value × Value)} (hk : KeysIn P k (l.map Prod.fst)) {es : Array MapEntry} {clock : Nat} (h1 : es.size ≤ maxLen) (h2 : Stamped es clock) (h3 : ∀ x ∈ es.toList, logV l x.key = some x.val) : Fit P k allR es clock :=
  ⟨h1, h2, fun x hx => by
    obtain ⟨lt, hl⟩ := hk.2 x.key (List.mem_map.mpr ⟨_, logV_mem (h3 x hx), rfl⟩)
    exact ⟨_, by unfold rd; rw [hl]; rfl⟩⟩
theorem MapV.look {w : World} {P : Program} {t k e : TypeId} {b : Nat} {l : List (Value × Value)} (h : MapV w b l) (ht : P.underlying t = some (.map k e)) {z : Value} (hz : (zeroValue e).run P w = .ok z w) {a : Value} (hk : KeysIn P k (a :: l.map Prod.fst)) (c : Bool) :
    (Instr.lookup t (.map (some b)) a c).run P w = .ok (if c then .tuple #[(logV l a).getD z, .bool (logV l a).isSome] else (logV l a).getD z) w := by
  obtain ⟨es, clock, hb, hs, hm, hst, h3, h4⟩ := h
  obtain ⟨la, hla⟩ := hk.2 a List.mem_cons_self
  have hk' : KeysIn P k (l.map Prod.fst) := ⟨hk.1, fun x hx => hk.2 x (List.mem_cons_of_mem _ hx)⟩
  rcases fit_look c hk.1 ht hz hb (MapV.fit hk' hm hst h3) hla with ⟨hrun, hno, _⟩ | ⟨e0, y, hm0, hkey, hrun, _⟩
  · have : logV l a = none := by
      cases hl : logV l a with
      | none => rfl
      | some v =>
        obtain ⟨x, hx, hxk, _⟩ := h4 a v hl
        exact absurd hxk (hno x hx)
    rw [hrun, this]; rfl
  · have hl := h3 e0 hm0
    rw [hkey] at hl
    rw [hrun, hl]; rfl
theorem MapV.store {w : World} {P : Program} {t k e : TypeId} {b : Nat} {l : List (Value × Value)} (h : MapV w b l) (ht : P.underlying t = some (.map k e)) (hn : l.length < maxLen) {a : Value} (hk : KeysIn P k (a :: l.map Prod.fst)) (v : Value) :
    ∃ o, (Instr.mapUpdate t (.map (some b)) a v).run P w = .ok () (setBlock w b o) ∧ MapV (setBlock w b o) b ((a, v) :: l) := by
  obtain ⟨es, clock, hb, hs, hm, hst, h3, h4⟩ := h
  obtain ⟨la, hla⟩ := hk.2 a List.mem_cons_self
  have hk' : KeysIn P k (l.map Prod.fst) := ⟨hk.1, fun x hx => hk.2 x (List.mem_cons_of_mem _ hx)⟩
  have F := MapV.fit hk' hm hst h3
  obtain ⟨es', clock', hrun, F', hput, _, _, hold⟩ := fit_store (R' := allR) hk.1 ht hb F (by omega) (fun _ _ _ _ hz => hz) hla (show allR v = some (.nil, []) from rfl)
  have hkeys : ∀ x ∈ es'.toList, logV ((a, v) :: l) x.key = some x.val := fun x hx => by
    rcases hold x hx with ⟨h1, h2⟩ | ⟨h1, h2⟩
    · rw [logV_ne l v (fun hc => h2 hc.symm)]
      exact h3 x h1
    · rw [h1, h2, logV_same]
  have hrg : ∀ (x : MapEntry) lx, keyOf P k x.key = some lx → rg P k allR x = (lx, (.nil : DataW Unit)) := fun x lx hx => by
    have : rd P k allR x = some (lx, (.nil : DataW Unit)) := by unfold rd; rw [hx]; rfl
    exact rg_of this
  have hin : ∀ x ∈ es'.toList, ∃ lx, keyOf P k x.key = some lx := fun x hx => hk.2 x.key (show x.key ∈ ((a, v) :: l).map Prod.fst from List.mem_map.mpr ⟨_, logV_mem (hkeys x hx), rfl⟩)
  have hmem : ∀ a' lx, keyOf P k a' = some lx → (lx, (.nil : DataW Unit)) ∈ putKey la .nil ((es.toList.map (rg P k allR)).foldr DataW.insert []) → ∃ x ∈ es'.toList, x.key = a' := fun a' lx hw hp => by
    rw [← hput, mem_srt] at hp
    obtain ⟨x, hx, hxe⟩ := List.mem_map.mp hp
    obtain ⟨c, c1⟩ := hin x hx
    rw [hrg x c c1] at hxe
    refine ⟨x, hx, hk.1.inj (l := lx) ?_ hw⟩
    rw [c1]
    exact congrArg some (congrArg Prod.fst hxe)
  refine ⟨_, hrun, es', clock', heap_setBlock_same hb _, ?_, F'.size, F'.stamped, hkeys, fun a' v' hl => ?_⟩
  · have e1 : es'.size = ((es'.toList.map (rg P k allR)).foldr DataW.insert []).length := by rw [length_sorted]; simp
    rw [e1, hput]
    unfold putKey
    rw [length_insert]
    have e2 := List.length_filter_le (notKey la) ((es.toList.map (rg P k allR)).foldr DataW.insert [])
    rw [length_sorted] at e2
    simp at e2
    simp
    omega
  · have hx : ∃ x ∈ es'.toList, x.key = a' := by
      by_cases hc : a = a'
      · subst hc
        exact hmem a la hla (mem_insert_iff.mpr (.inl rfl))
      · rw [logV_ne l v hc] at hl
        obtain ⟨x, hx, hxk, _⟩ := h4 a' v' hl
        obtain ⟨lx, hlx⟩ := hk.2 a' (List.mem_cons_of_mem _ (List.mem_map.mpr ⟨_, logV_mem hl, rfl⟩))
        refine hmem a' lx hlx (mem_insert_iff.mpr (.inr (List.mem_filter.mpr ⟨mem_srt.mpr (List.mem_map.mpr ⟨x, hx, hrg x lx (by rw [hxk]; exact hlx)⟩), ?_⟩)))
        rw [notKey_iff (k := la) (hk.1.key hla)]
        exact fun hq => hc (hk.1.inj (l := la) hla (by
          have hq : lx = la := hq
          rw [← hq]; exact hlx))
    obtain ⟨x, hx, hxk⟩ := hx
    have c3 := hkeys x hx
    rw [hxk, hl] at c3
    exact ⟨x, hx, hxk, (Option.some.inj c3).symm⟩
theorem setBlock_otherV {w : World} {b : Nat} {l : List (Value × Value)} (h : MapV w b l) (o : Obj) (k : Nat) (hk : k ≠ b) : (setBlock w b o).heap[k]? = w.heap[k]? := by
  obtain ⟨es, clock, hb, _⟩ := h
  exact heap_setBlock_other hb o hk
end Go.Proofs.YtiajbijbhhpllaaDoor.S2
