/- Plain01, Kit01, Ref08, Mul07. -/
import Derived.Test.YtilljoemebbnjaaDoorS2I
import Derived.WalkKit
import Derived.Laws.BitsAllLaws
import Derived.WalkSpells
import Derived.WalkLawsBesides
import Derived.Deep.QuietTactic
import Derived.BigQuiet
import Derived.Deep.Draws
import Derived.Test.YtilljoemebbnjaaDoorRows
set_option linter.unusedVariables false
set_option linter.unusedSimpArgs false
namespace Go.Proofs.YtilljoemebbnjaaDoor
open Go.RowKit
theorem ret_int {k : IntKind} {a b : Int} (h : a = b) : Ending.returned (.int k a) = .returned (.int k b) := by rw [h]
theorem ones_eq' : ∀ n : Fin 33, (4294967295 : Int) / 2 ^ (32 - n.val) = ((2 ^ n.val - 1 : Nat) : Int) := by decide +kernel
theorem ones_eq (n : Nat) (h : n ≤ 32) : (4294967295 : Int) / 2 ^ (32 - n) = ((2 ^ n - 1 : Nat) : Int) := ones_eq' ⟨n, by omega⟩
theorem pow_le32 (n : Nat) (h : n ≤ 32) : 2 ^ n ≤ 4294967296 := Nat.pow_le_pow_right (by omega) h
theorem mask_eq (x n : Nat) (hx : x < 4294967296) (h : n ≤ 32) : bits .and .u32 (x : Int) ((2 ^ n - 1 : Nat) : Int) = ((x % 2 ^ n : Nat) : Int) := by
  have := pow_le32 n h
  have := Nat.two_pow_pos n
  rw [u32_and_nat x (2 ^ n - 1) hx (by omega), Nat.and_two_pow_sub_one_eq_mod]
def getF (w a n : Nat) : Nat := w / 2 ^ a % 2 ^ n
def putF (w a n v : Nat) : Nat := (w &&& (4294967295 - (2 ^ n - 1) * 2 ^ a)) ||| (v % 2 ^ n * 2 ^ a)
theorem field_top (a n : Nat) (h4 : a + n ≤ 32) : (2 ^ n - 1) * 2 ^ a < 4294967296 := by
  have h := pow_le32 (a + n) h4
  rw [Nat.pow_add, Nat.mul_comm] at h
  have := Nat.two_pow_pos a
  have := Nat.two_pow_pos n
  rw [Nat.sub_mul, Nat.one_mul]
  omega
theorem val_top (a n v : Nat) (h4 : a + n ≤ 32) : v % 2 ^ n * 2 ^ a < 4294967296 := by
  have h := pow_le32 (a + n) h4
  rw [Nat.pow_add, Nat.mul_comm] at h
  have h3 : v % 2 ^ n + 1 ≤ 2 ^ n := Nat.mod_lt _ (Nat.two_pow_pos n)
  have h5 := Nat.mul_le_mul_right (2 ^ a) h3
  rw [Nat.add_mul, Nat.one_mul] at h5
  have := Nat.two_pow_pos a
  omega
theorem shl_eq (y a : Nat) (h : y * 2 ^ a < 4294967296) : ((y : Int) * 2 ^ a) % 4294967296 = ((y * 2 ^ a : Nat) : Int) := by
  have e : (y : Int) * 2 ^ a = ((y * 2 ^ a : Nat) : Int) := by simp
  rw [e]; omega
theorem put_eq (x a n v : Nat) (hx : x < 4294967296) (hv : v < 4294967296) (h2 : n ≤ 32) (h4 : a + n ≤ 32) :
    bits .or .u32 (bits .andNot .u32 (x : Int) (((2 ^ n - 1 : Nat) : Int) * 2 ^ a % 4294967296)) (bits .and .u32 (v : Int) ((2 ^ n - 1 : Nat) : Int) * 2 ^ a % 4294967296) = ((putF x a n v : Nat) : Int) := by
  rw [mask_eq v n hv h2, shl_eq _ a (field_top a n h4), shl_eq _ a (val_top a n v h4), u32_andNot_nat x _ hx (field_top a n h4),
    u32_or_nat _ _ (Nat.lt_of_le_of_lt Nat.and_le_left hx) (val_top a n v h4)]
  rfl
theorem putF_lt (x a n v : Nat) (hx : x < 4294967296) (h4 : a + n ≤ 32) : putF x a n v < 4294967296 :=
  Nat.or_lt_two_pow (n := 32) (Nat.lt_of_le_of_lt Nat.and_le_left hx) (val_top a n v h4)
theorem test_getF (w a n i : Nat) : (getF w a n).testBit i = (decide (i < n) && w.testBit (a + i)) := by
  unfold getF; rw [Nat.testBit_mod_two_pow, Nat.testBit_div_two_pow, Nat.add_comm]
theorem test_putF (w a n v i : Nat) (hw : w < 4294967296) (h4 : a + n ≤ 32) :
    (putF w a n v).testBit i = if a ≤ i ∧ i < a + n then v.testBit (i - a) else w.testBit i := by
  unfold putF
  have e : 4294967295 - (2 ^ n - 1) * 2 ^ a = 2 ^ 32 - ((2 ^ n - 1) * 2 ^ a + 1) := by omega
  have hw32 : w.testBit i = true → i < 32 := fun h => by
    refine Decidable.byContradiction fun hi => ?_
    have : w < 2 ^ i := Nat.lt_of_lt_of_le hw (Nat.pow_le_pow_right (n := 2) (by omega) (show 32 ≤ i by omega))
    rw [Nat.testBit_lt_two_pow this] at h; cases h
  rw [Nat.testBit_or, Nat.testBit_and, e, Nat.testBit_two_pow_sub_succ (field_top a n h4), Nat.testBit_mul_two_pow, Nat.testBit_mul_two_pow, Nat.testBit_mod_two_pow, Nat.testBit_two_pow_sub_one]
  by_cases h1 : a ≤ i <;> by_cases h2 : i < a + n
  · have : i - a < n := by omega
    have : i < 32 := by omega
    simp [*]
  · have : ¬ i - a < n := by omega
    simp [*]
    cases hb : w.testBit i <;> simp_all
  · have : i < 32 := by omega
    simp [*]
  · simp [*]
    cases hb : w.testBit i <;> simp_all
def fitsB (x : Int) (n : Nat) : Bool := x / 2 ^ (n - 1) == 0 || x / 2 ^ (n - 1) == -1
theorem fitsB_iff (x : Int) (n : Nat) : fitsB x n = true ↔ -(2 ^ (n - 1) : Nat) ≤ x ∧ x < (2 ^ (n - 1) : Nat) := by
  have hp : (0 : Int) < 2 ^ (n - 1) := Int.pow_pos (by decide)
  have hc : ((2 ^ (n - 1) : Nat) : Int) = 2 ^ (n - 1) := by rw [Int.natCast_pow]; rfl
  rw [hc]
  unfold fitsB
  generalize (2 : Int) ^ (n - 1) = p at *
  simp only [Bool.or_eq_true, beq_iff_eq]
  have h0 := Int.emod_nonneg x (Int.ne_of_gt hp)
  have h1 := Int.emod_lt_of_pos x hp
  have h2 := Int.mul_ediv_add_emod x p
  constructor
  · rintro (h | h) <;> rw [h] at h2
    · rw [Int.mul_zero] at h2; omega
    · rw [Int.mul_neg, Int.mul_one] at h2; omega
  · rintro ⟨ha, hb⟩
    by_cases hx : 0 ≤ x
    · left; exact Int.ediv_eq_zero_of_lt hx hb
    · right
      have e : x / p = (x + p) / p - 1 := by rw [Int.add_ediv_of_dvd_right ⟨1, by omega⟩, Int.ediv_self (by omega)]; omega
      rw [e, Int.ediv_eq_zero_of_lt (by omega) (by omega)]; rfl
end Go.Proofs.YtilljoemebbnjaaDoor
namespace Go.Proofs.YtilljoemebbnjaaDoor
open Go.RowKit
def Qt (w : World) (v : Value) : Ending → World → Prop := fun e w' => e = .returned v ∧ ∃ m, w' = w.drewN m
theorem Qt.at0 {P : Program} {f : FuncId} {args : Array Value} {w : World} {n : Nat} {v : Value}
    (h : Calls P f args (w.drewN n) (Qt (w.drewN n) v)) : Calls P f args (w.drewN n) fun e w'' => e = .returned v ∧ ∃ m, w'' = w.drewN m :=
  h.mono fun _ _ ⟨he, m, hm⟩ => ⟨he, n + m, by rw [hm, World.drewN_drewN]⟩
theorem Qt.of_same {P : Program} {f : FuncId} {args : Array Value} {w : World} {v : Value}
    (h : Calls P f args w fun e w' => e = .returned v ∧ w = w') : Calls P f args w (Qt w v) :=
  h.mono fun _ _ ⟨he, hm⟩ => ⟨he, 0, hm.symm⟩
theorem Qt.mk (w : World) (v : Value) (m : Nat) : Qt w v (.returned v) (w.drewN m) := ⟨rfl, m, rfl⟩
theorem Qt.eq (w : World) {v v' : Value} (m : Nat) (h : v' = v) : Qt w v (.returned v') (w.drewN m) := ⟨by rw [h], m, rfl⟩
theorem below_draws {B : Nat} {a w : World} (h : Below B a w) (n : Nat) : Below B a (w.drewN n) := ⟨h.os, h.tape, h.output, h.size, h.block⟩
end Go.Proofs.YtilljoemebbnjaaDoor
namespace Go.Proofs.YtilljoemebbnjaaDoor
open Go.RowKit Sim S2
def intL (o : Bool) (n : Nat) (c : Nat → Int) : LE := ⟨3, 1, n, fun i => [.int .i64 (c i)], o, false, true⟩
end Go.Proofs.YtilljoemebbnjaaDoor
namespace Go.Proofs.YtilljoemebbnjaaDoor
open Go.RowKit Sim S2
theorem ret7 {E : S2.Env} (HC : CallOk E) {f : FuncId} {fls : List (List Bool)} {args : List XV} {v : Value} (orc : List Bool) (l : List (Bool × Bool))
    (h : simF E 1000 10 [] orc f fls args = some (false, [.inl v], l, [])) (hl : ∀ p ∈ l, p.1 = p.2) {fn : Func} (hfn : E.P.funcs[f]? = some fn) (w : World) (vals : List Value) (hG : S2.Glob E w) (ha : ArgsOk w args vals) : Ret E.P f vals.toArray v w :=
  (fn_ok HC h hl hfn w vals hG ha fun t ht => by cases ht).plain
end Go.Proofs.YtilljoemebbnjaaDoor
