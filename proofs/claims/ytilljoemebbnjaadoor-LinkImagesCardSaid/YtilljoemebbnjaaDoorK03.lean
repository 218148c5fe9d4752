/- Plain01, Kit01, Plain02, Kit02, Ref02. -/
import Derived.WalkKit
import Derived.Laws.BitsAllLaws
import Derived.WalkSpells
import Derived.WalkLawsBesides
import Derived.Deep.QuietTactic
import Derived.BigQuiet
import Derived.Deep.Draws
import Derived.Test.YtilljoemebbnjaaDoorRows
set_option linter.unusedVariables false
set_option linter.unusedSimpArgs false
namespace Go.Proofs.YtilljoemebbnjaaDoor
open Go.RowKit
theorem ret_int {k : IntKind} {a b : Int} (h : a = b) : Ending.returned (.int k a) = .returned (.int k b) := by rw [h]
theorem ones_eq' : ∀ n : Fin 33, (4294967295 : Int) / 2 ^ (32 - n.val) = ((2 ^ n.val - 1 : Nat) : Int) := by decide +kernel
theorem ones_eq (n : Nat) (h : n <= 32) : (4294967295 : Int) / 2 ^ (32 - n) = ((2 ^ n - 1 : Nat) : Int) := ones_eq' ⟨n, by omega⟩
theorem pow_le32 (n : Nat) (h : n <= 32) : 2 ^ n <= 4294967296 := Nat.pow_le_pow_right (by omega) h
theorem mask_eq (x n : Nat) (hx : x < 4294967296) (h : n <= 32) : bits .and .u32 (x : Int) ((2 ^ n - 1 : Nat) : Int) = ((x % 2 ^ n : Nat) : Int) := by
 have := pow_le32 n h
 have := Nat.two_pow_pos n
 rw [u32_and_nat x (2 ^ n - 1) hx (by omega), Nat.and_two_pow_sub_one_eq_mod]
def getF (w a n : Nat) : Nat := w / 2 ^ a % 2 ^ n
def putF (w a n v : Nat) : Nat := (w &&& (4294967295 - (2 ^ n - 1) * 2 ^ a)) ||| (v % 2 ^ n * 2 ^ a)
theorem field_top (a n : Nat) (h4 : a + n <= 32) : (2 ^ n - 1) * 2 ^ a < 4294967296 := by
 have h := pow_le32 (a + n) h4
 rw [Nat.pow_add, Nat.mul_comm] at h
 have := Nat.two_pow_pos a
 have := Nat.two_pow_pos n
 rw [Nat.sub_mul, Nat.one_mul]
 omega
theorem val_top (a n v : Nat) (h4 : a + n <= 32) : v % 2 ^ n * 2 ^ a < 4294967296 := by
 have h := pow_le32 (a + n) h4
 rw [Nat.pow_add, Nat.mul_comm] at h
 have h3 : v % 2 ^ n + 1 <= 2 ^ n := Nat.mod_lt _ (Nat.two_pow_pos n)
 have h5 := Nat.mul_le_mul_right (2 ^ a) h3
 rw [Nat.add_mul, Nat.one_mul] at h5
 have := Nat.two_pow_pos a
 omega
theorem shl_eq (y a : Nat) (h : y * 2 ^ a < 4294967296) : ((y : Int) * 2 ^ a) % 4294967296 = ((y * 2 ^ a : Nat) : Int) := by
 have e : (y : Int) * 2 ^ a = ((y * 2 ^ a : Nat) : Int) := by simp
 rw [e]; omega
theorem put_eq (x a n v : Nat) (hx : x < 4294967296) (hv : v < 4294967296) (h2 : n <= 32) (h4 : a + n <= 32) :
   bits .or .u32 (bits .andNot .u32 (x : Int) (((2 ^ n - 1 : Nat) : Int) * 2 ^ a % 4294967296)) (bits .and .u32 (v : Int) ((2 ^ n - 1 : Nat) : Int) * 2 ^ a % 4294967296) = ((putF x a n v : Nat) : Int) := by
 rw [mask_eq v n hv h2, shl_eq _ a (field_top a n h4), shl_eq _ a (val_top a n v h4), u32_andNot_nat x _ hx (field_top a n h4),
   u32_or_nat _ _ (Nat.lt_of_le_of_lt Nat.and_le_left hx) (val_top a n v h4)]
 rfl
theorem putF_lt (x a n v : Nat) (hx : x < 4294967296) (h4 : a + n <= 32) : putF x a n v < 4294967296 :=
 Nat.or_lt_two_pow (n := 32) (Nat.lt_of_le_of_lt Nat.and_le_left hx) (val_top a n v h4)
def bitN (v i : Nat) : Nat := v / 2 ^ i % 2
theorem bitN_lt (v i : Nat) : bitN v i < 2 := Nat.mod_lt _ (by omega)
theorem test_getF (w a n i : Nat) : (getF w a n).testBit i = (decide (i < n) && w.testBit (a + i)) := by
 unfold getF; rw [Nat.testBit_mod_two_pow, Nat.testBit_div_two_pow, Nat.add_comm]
theorem test_putF (w a n v i : Nat) (hw : w < 4294967296) (h4 : a + n <= 32) :
   (putF w a n v).testBit i = if a <= i /\ i < a + n then v.testBit (i - a) else w.testBit i := by
 unfold putF
 have e : 4294967295 - (2 ^ n - 1) * 2 ^ a = 2 ^ 32 - ((2 ^ n - 1) * 2 ^ a + 1) := by omega
 have hw32 : w.testBit i = true -> i < 32 := fun h => by
   refine Decidable.byContradiction fun hi => ?_
   have : w < 2 ^ i := Nat.lt_of_lt_of_le hw (Nat.pow_le_pow_right (n := 2) (by omega) (show 32 <= i by omega))
   rw [Nat.testBit_lt_two_pow this] at h; cases h
 rw [Nat.testBit_or, Nat.testBit_and, e, Nat.testBit_two_pow_sub_succ (field_top a n h4), Nat.testBit_mul_two_pow, Nat.testBit_mul_two_pow, Nat.testBit_mod_two_pow, Nat.testBit_two_pow_sub_one]
 by_cases h1 : a <= i <;> by_cases h2 : i < a + n
 . have : i - a < n := by omega
   have : i < 32 := by omega
   simp [*]
 . have : ¬ i - a < n := by omega
   simp [*]
   cases hb : w.testBit i <;> simp_all
 . have : i < 32 := by omega
   simp [*]
 . simp [*]
   cases hb : w.testBit i <;> simp_all
def signN (x n : Nat) : Int := ((x % 2 ^ (n - 1) : Nat) : Int) - 2 ^ (n - 1) * ((bitN x (n - 1) : Nat) : Int)
def fitsB (x : Int) (n : Nat) : Bool := x / 2 ^ (n - 1) == 0 || x / 2 ^ (n - 1) == -1
theorem fitsB_iff (x : Int) (n : Nat) : fitsB x n = true ↔ -(2 ^ (n - 1) : Nat) <= x /\ x < (2 ^ (n - 1) : Nat) := by
 have hp : (0 : Int) < 2 ^ (n - 1) := Int.pow_pos (by decide)
 have hc : ((2 ^ (n - 1) : Nat) : Int) = 2 ^ (n - 1) := by rw [Int.natCast_pow]; rfl
 rw [hc]
 unfold fitsB
 generalize (2 : Int) ^ (n - 1) = p at *
 simp only [Bool.or_eq_true, beq_iff_eq]
 have h0 := Int.emod_nonneg x (Int.ne_of_gt hp)
 have h1 := Int.emod_lt_of_pos x hp
 have h2 := Int.mul_ediv_add_emod x p
 constructor
 . rintro (h | h) <;> rw [h] at h2
   . rw [Int.mul_zero] at h2; omega
   . rw [Int.mul_neg, Int.mul_one] at h2; omega
 . rintro ⟨ha, hb⟩
   by_cases hx : 0 <= x
   . left; exact Int.ediv_eq_zero_of_lt hx hb
   . right
     have e : x / p = (x + p) / p - 1 := by rw [Int.add_ediv_of_dvd_right ⟨1, by omega⟩, Int.ediv_self (by omega)]; omega
     rw [e, Int.ediv_eq_zero_of_lt (by omega) (by omega)]; rfl
def shrN (v j : Nat) : Nat := v / 2 ^ j
def modN (v j : Nat) : Nat := v % 2 ^ j
def powN (j : Nat) : Nat := 2 ^ j
theorem shrN_zero (v : Nat) : shrN v 0 = v := by simp [shrN]
theorem shrN_le (v j : Nat) : shrN v j <= v := Nat.div_le_self _ _
theorem shrN_succ (v j : Nat) : shrN v (j + 1) = shrN v j / 2 := by unfold shrN; rw [Nat.pow_succ, Nat.div_div_eq_div_mul]
theorem shrN_bit (v j : Nat) : shrN v j % 2 = bitN v j := rfl
theorem powN_succ (j : Nat) : powN (j + 1) = 2 * powN j := by unfold powN; rw [Nat.pow_succ, Nat.mul_comm]
theorem powN_le (i j : Nat) (h : i <= j) : powN i <= powN j := Nat.pow_le_pow_right (by omega) h
theorem powN_31 : powN 31 = 2147483648 := by decide
theorem powN_63 : powN 63 = 9223372036854775808 := by decide
theorem modN_lt (v j : Nat) : modN v j < powN j := Nat.mod_lt _ (Nat.two_pow_pos j)
theorem modN_zero (v : Nat) : modN v 0 = 0 := by simp [modN, Nat.mod_one]
theorem modN_succ (v j : Nat) : modN v (j + 1) = modN v j + powN j * bitN v j := by unfold modN powN bitN; rw [Nat.pow_succ, Nat.mod_mul]
theorem signN_eq (v n : Nat) : signN v n = (modN v (n - 1) : Int) - powN (n - 1) * bitN v (n - 1) := by
 unfold signN modN powN; rw [Int.natCast_pow]; rfl
def u64N (x : Int) : Nat := (x % 18446744073709551616).toNat
theorem u64N_lt (x : Int) : u64N x < 18446744073709551616 := by unfold u64N; omega
theorem u64N_eq (x : Int) : IntKind.u64.wrap x = ((u64N x : Nat) : Int) := by rw [IntKind.wrap_u64]; unfold u64N; omega
theorem fitsB_64 (x : Int) (h0 : -9223372036854775808 <= x) (h1 : x <= 9223372036854775807) : fitsB x 64 = true :=
 (fitsB_iff x 64).mpr ⟨h0, Int.lt_of_le_of_lt h1 (by decide)⟩
end Go.Proofs.YtilljoemebbnjaaDoor
namespace Go.Proofs.YtilljoemebbnjaaDoor
open Go.RowKit
theorem hid {p : Prop} (h : p) : Hid p := h
def Qt (w : World) (v : Value) : Ending -> World -> Prop := fun e w' => e = .returned v /\ ∃ m, w' = w.drewN m
theorem Qt.at0 {P : Program} {f : FuncId} {args : Array Value} {w : World} {n : Nat} {v : Value}
   (h : Calls P f args (w.drewN n) (Qt (w.drewN n) v)) : Calls P f args (w.drewN n) fun e w'' => e = .returned v /\ ∃ m, w'' = w.drewN m :=
 h.mono fun _ _ ⟨he, m, hm⟩ => ⟨he, n + m, by rw [hm, World.drewN_drewN]⟩
theorem Qt.of_same {P : Program} {f : FuncId} {args : Array Value} {w : World} {v : Value}
   (h : Calls P f args w fun e w' => e = .returned v /\ w = w') : Calls P f args w (Qt w v) :=
 h.mono fun _ _ ⟨he, hm⟩ => ⟨he, 0, hm.symm⟩
theorem Qt.mk (w : World) (v : Value) (m : Nat) : Qt w v (.returned v) (w.drewN m) := ⟨rfl, m, rfl⟩
theorem Qt.mk0 (w : World) (v : Value) : Qt w v (.returned v) w := ⟨rfl, 0, rfl⟩
theorem Qt.eq (w : World) {v v' : Value} (m : Nat) (h : v' = v) : Qt w v (.returned v') (w.drewN m) := ⟨by rw [h], m, rfl⟩
theorem below_draws {B : Nat} {a w : World} (h : Below B a w) (n : Nat) : Below B a (w.drewN n) := ⟨h.os, h.tape, h.output, h.size, h.block⟩
end Go.Proofs.YtilljoemebbnjaaDoor
namespace Go.Proofs.YtilljoemebbnjaaDoor
open Go.RowKit
theorem or_zero (x : Nat) (hx : x < 4294967296) : bits .or .u32 (x : Int) 0 = x := by
 have := u32_or_nat x 0 hx (by omega)
 simpa using this
end Go.Proofs.YtilljoemebbnjaaDoor
namespace Go.Proofs.YtilljoemebbnjaaDoor
open Go.RowKit
def RdI (k : IntKind) (w : World) (B : Nat) (v : Value) (xs : List Int) : Prop :=
 ∃ a cap, v = .slice a xs.length cap /\ (0 < xs.length -> ∃ b off, a = some ⟨b, off, none⟩ /\ b < B /\ ∀ i, i < xs.length -> w.cell? ⟨b, off + i, none⟩ = some (.int k (xs.getD i 0)))
theorem RdI.below {k : IntKind} {w w' : World} {B : Nat} {v : Value} {xs : List Int} (h : RdI k w B v xs) (hb : Below B w w') : RdI k w' B v xs := by
 obtain ⟨a, cap, hv, hc⟩ := h
 refine ⟨a, cap, hv, fun hp => ?_⟩
 obtain ⟨b, off, ha, hlt, hcell⟩ := hc hp
 exact ⟨b, off, ha, hlt, fun i hi => (hb.cell (p := ⟨b, off + i, none⟩) hlt).trans (hcell i hi)⟩
end Go.Proofs.YtilljoemebbnjaaDoor
namespace Go.Proofs.YtilljoemebbnjaaDoor
open Go.RowKit
theorem refInts_none (w : World) (a b : Option Addr) (ca cb : Nat) :
   Calls Tryd.prog 11 #[.slice a 0 ca, .slice b 0 cb] w (Qt w (.bool true)) := by
 go_enter Tryd.func11, Tryd.ntmps11
 go_wp2
 refine wp_loop_rounds 1 ?_
 rw [rounds_succ]
 go_wp2
 go_ret
 exact Qt.mk0 _ _
theorem refInts_some (w : World) (b off b' off' n ca cb : Nat) (f : Nat -> Int) (hm : n <= 9223372036854775807)
   (hf : ∀ i, i < n -> w.cell? ⟨b, off + i, none⟩ = some (.int .i64 (f i))) (hg : ∀ i, i < n -> w.cell? ⟨b', off' + i, none⟩ = some (.int .i64 (f i))) :
   Calls Tryd.prog 11 #[.slice (some ⟨b, off, none⟩) n ca, .slice (some ⟨b', off', none⟩) n cb] w (Qt w (.bool true)) := by
 have hne : ((n : Int) != n) = false := by simp
 have Hf := hid hf
 have Hg := hid hg
 clear hf hg
 go_enter Tryd.func11, Tryd.ntmps11
 go_wp2
 go_loopw [5] (fun k wr => ∃ j m : Nat, j <= n /\ k = .int .i64 j /\ wr = w.drewN m) (fun k _ => n - (intOf k).toNat)
 case atStart => exact ⟨0, 0, Nat.zero_le _, rfl, rfl⟩
 case round =>
   obtain ⟨j, m, hj, rfl, rfl⟩ := hrel
   by_cases hlt : j < n
   . have h1 := Hf.out j hlt
     have h2 := Hg.out j hlt
     clear Hf Hg
     go_wp2
     go_quiet (fail)
     go_wp2
     go_roundw
     case rel => exact ⟨j + 1, _, by omega, by go_num, rfl⟩
     case measure => simp [intOf]; omega
   . go_wp2
     go_ret
     exact Qt.mk _ _ _
theorem refInts_yes {w : World} {B B' : Nat} {u v : Value} {xs : List Int} (hm : xs.length <= 9223372036854775807) (hu : RdI .i64 w B u xs) (hv : RdI .i64 w B' v xs) :
   Calls Tryd.prog 11 #[u, v] w (Qt w (.bool true)) := by
 obtain ⟨a, ca, rfl, h1⟩ := hu
 obtain ⟨b, cb, rfl, h2⟩ := hv
 rcases Nat.eq_zero_or_pos xs.length with h0 | h0
 . rw [h0]; exact refInts_none w a b ca cb
 . obtain ⟨b1, o1, rfl, _, h1⟩ := h1 h0
   obtain ⟨b2, o2, rfl, _, h2⟩ := h2 h0
   exact refInts_some w b1 o1 b2 o2 _ ca cb (fun i => xs.getD i 0) hm h1 h2
end Go.Proofs.YtilljoemebbnjaaDoor
