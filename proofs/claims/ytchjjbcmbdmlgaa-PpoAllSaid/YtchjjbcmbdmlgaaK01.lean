/- Kit01, Reg15, Plain01, Plain03, Ref01, Plain04. -/
import Derived.WalkKit
import Derived.WalkSpells
import Derived.WalkLawsBesides
import Derived.Deep.QuietTactic
import Derived.BigQuiet
import Derived.Deep.Draws
import Derived.Deep.RegionHeld
import Derived.Deep.MidRow
import Derived.Laws.BitsAllLaws
import Derived.Test.YtchjjbcmbdmlgaaRows
set_option linter.unusedVariables false
set_option linter.unusedSimpArgs false
namespace Go.Proofs.Ytchjjbcmbdmlgaa
open Go.RowKit
theorem hid {p : Prop} (h : p) : Hid p := h
def Qt (w : World) (v : Value) : Ending → World → Prop := fun e w' => e = .returned v ∧ ∃ m, w' = w.drewN m
theorem Qt.at0 {P : Program} {f : FuncId} {args : Array Value} {w : World} {n : Nat} {v : Value}
    (h : Calls P f args (w.drewN n) (Qt (w.drewN n) v)) : Calls P f args (w.drewN n) fun e w'' => e = .returned v ∧ ∃ m, w'' = w.drewN m :=
  h.mono fun _ _ ⟨he, m, hm⟩ => ⟨he, n + m, by rw [hm, World.drewN_drewN]⟩
theorem Qt.at1 {P : Program} {f : FuncId} {args : Array Value} {w : World} {a n : Nat} {v : Value}
    (h : Calls P f args (w.drewN (a + n)) (Qt (w.drewN (a + n)) v)) : Calls P f args (w.drewN (a + n)) fun e w'' => e = .returned v ∧ ∃ m, w'' = w.drewN (a + m) :=
  h.mono fun _ _ ⟨he, m, hm⟩ => ⟨he, n + m, by rw [hm, World.drewN_drewN, Nat.add_assoc]⟩
theorem Qt.of_same {P : Program} {f : FuncId} {args : Array Value} {w : World} {v : Value}
    (h : Calls P f args w fun e w' => e = .returned v ∧ w = w') : Calls P f args w (Qt w v) :=
  h.mono fun _ _ ⟨he, hm⟩ => ⟨he, 0, hm.symm⟩
theorem Qt.mk (w : World) (v : Value) (m : Nat) : Qt w v (.returned v) (w.drewN m) := ⟨rfl, m, rfl⟩
theorem Qt.eq (w : World) {v v' : Value} (m : Nat) (h : v' = v) : Qt w v (.returned v') (w.drewN m) := ⟨by rw [h], m, rfl⟩
theorem below_draws {B : Nat} {a w : World} (h : Below B a w) (n : Nat) : Below B a (w.drewN n) := ⟨h.os, h.tape, h.output, h.size, h.block⟩
def Holds (w : World) : Ending → World → Prop := fun e w' => e = .returned (.bool true) ∧ Below w.heap.size w w'
theorem Holds.mk {w w' : World} (h : Below w.heap.size w w') : Holds w (.returned (.bool true)) w' := ⟨rfl, h⟩
end Go.Proofs.Ytchjjbcmbdmlgaa
namespace Go.Proofs.Ytchjjbcmbdmlgaa
open Go Go.RowKit
section
variable {P : Program} {ops : Array Oper} {Q : Exit → Act → World → Prop} {md : Region.Mode} {S : World → Prop}
def takesB (md : Region.Mode) (ops : Array Oper) : List Nat → Array Bool → Bool
  | [], _ => true
  | i :: r, listed => Region.free md ops listed i && (Region.ready md ops listed).contains i && takesB md ops r (listed.setIfInBounds i true)
def listedBy : List Nat → Array Bool → Array Bool
  | [], l => l
  | i :: r, l => listedBy r (l.setIfInBounds i true)
def Takes (P : Program) (ops : Array Oper) (S : World → Prop) (R : Act → Prop) : List Nat → Act → Prop
  | [], a => R a
  | i :: r, a => ∃ o v, ops[i]? = some o ∧ YieldsIf P ops S o v a ∧ Takes P ops S R r (a.put o.dst v)
theorem held_takes (hsel : Region.noSelect ops = true) (hQ : ∀ c (a : Act) d v w, Q (.panic c) (a.put d v) w → Q (.panic c) a w) {w : World} (hS : S w) {fuel : Nat} : ∀ (is : List Nat) (listed : Array Bool) (a : Act),
    takesB md ops is listed = true → Takes P ops S (fun a' => wpAnyH P md ops Q S fuel (listedBy is listed) a' w) is a → wpAnyH P md ops Q S (is.length + fuel) listed a w
  | [], listed, a, _, h => by rw [List.length_nil, Nat.zero_add]; exact h
  | i :: r, listed, a, hB, ⟨o, v, ho, hy, h⟩ => by
    simp only [takesB, Bool.and_eq_true] at hB
    rw [List.length_cons, show r.length + 1 + fuel = (r.length + fuel) + 1 by omega]
    exact wpAnyH_take ho hsel hB.1.1 hB.1.2 (fun c a w h => hQ c a _ _ w h) hy hS (held_takes hsel hQ hS r _ _ hB.2 h)
theorem region_takes {id : Nat} {a : Act} {w : World} (S : World → Prop) (is : List Nat) (n : Nat) (hn : is.length + n = ops.size) (hm : P.follows .mixedOrders = true) (hsel : Region.noSelect ops = true) (hB : takesB .any ops is (Array.replicate ops.size false) = true)
    (hQ : ∀ c (a : Act) d v w, Q (.panic c) (a.put d v) w → Q (.panic c) a w) (hS : S w.drew) (h : Takes P ops S (fun a' => wpAnyH P .any ops Q S n (listedBy is (Array.replicate ops.size false)) a' w.drew) is a) : (Code.region id ops true).wp P Q a w :=
  wp_region_held_drew hm hS fun _ => by
    have h1 := held_takes (fuel := n) hsel hQ hS is _ _ hB h
    rwa [hn] at h1
theorem take_pure {i : Nat} {r : List Nat} {a : Act} {R : Act → Prop} (o : Oper) {v : Value} (ho : ops[i]? = some o) (hw : Region.wanted o (yielded ops a.tmps) = true) (hv : ∀ w, S w → (execOp a.eval o).run P w = .ok (.value v) w) (h : Takes P ops S R r (a.put o.dst v)) : Takes P ops S R (i :: r) a :=
  ⟨o, v, ho, .inl ⟨hw, hv⟩, h⟩
theorem take_done {a : Act} {R : Act → Prop} (h : R a) : Takes P ops S R [] a := h
theorem take_row {i : Nat} {r : List Nat} {a : Act} {R : Act → Prop} (o : Oper) {v : Value} (ho : ops[i]? = some o) (hw : Region.wanted o (yielded ops a.tmps) = true) (ty : TypeId) (x : Operand) (hop : o.op = .load ty x) {b f : Nat} (hx : a.eval x = .pointer (some ⟨b, f, none⟩))
    (hl : ∀ w, S w → (loadVar ty ⟨b, f, none⟩).run P w = .ok v w) (h : Takes P ops S R r (a.put o.dst v)) : Takes P ops S R (i :: r) a :=
  ⟨o, v, ho, .inl ⟨hw, fun w hS => by
    unfold execOp
    simp only [hop, hx, Instr.loadAt, Instr.sureAddr, Sem.run_bind, Sem.run_pure, Result.andThen_ok, hl w hS]⟩, h⟩
theorem held_op {n i : Nat} {listed : Array Bool} {a : Act} {w w' : World} (o : Oper) {v : Value} (hr : Region.ready md ops listed = [i]) (ho : ops[i]? = some o) (hw : Region.wanted o (yielded ops a.tmps) = true) (hv : (execOp a.eval o).run P w = .ok (.value v) w') (hS : S w')
    (h : wpAnyH P md ops Q S n (listed.setIfInBounds i true) (a.put o.dst v) w') : wpAnyH P md ops Q S (n + 1) listed a w :=
  wpAnyH_all hr (by simp) fun j hj => by
    have hj : j = i := by simpa using hj
    subst hj
    refine wpOp_step ho fun K hK => ?_
    rw [if_pos hw]
    unfold Oper.wp
    rw [hv]
    exact hK _ _ ⟨hS, h⟩
theorem held_skip {n i : Nat} {listed : Array Bool} {a : Act} {w w' : World} (o : Oper) (hr : Region.ready md ops listed = [i]) (ho : ops[i]? = some o) (hw : Region.wanted o (yielded ops a.tmps) = true) (hv : (execOp a.eval o).run P w = .ok .skip w') (hS : S w')
    (h : wpAnyH P md ops Q S n (listed.setIfInBounds i true) (a.put o.dst undef) w') : wpAnyH P md ops Q S (n + 1) listed a w :=
  wpAnyH_all hr (by simp) fun j hj => by
    have hj : j = i := by simpa using hj
    subst hj
    refine wpOp_step ho fun K hK => ?_
    rw [if_pos hw]
    unfold Oper.wp
    rw [hv]
    exact hK _ _ ⟨hS, h⟩
theorem run_store {a : Act} {w w' : World} {o : Oper} (ty : TypeId) (x y : Operand) (hop : o.op = .store ty x y) {b f : Nat} {v : Value} (hx : a.eval x = .pointer (some ⟨b, f, none⟩)) (hy : a.eval y = v) (hr : (storeVar ty ⟨b, f, none⟩ v).run P w = .ok () w') : (execOp a.eval o).run P w = .ok .skip w' := by
  unfold execOp
  simp only [hop, hx, hy, Instr.storeAt, Instr.sureAddr, Sem.run_bind, Sem.run_pure, Result.andThen_ok, hr]
theorem held_call {n i : Nat} {listed : Array Bool} {a : Act} {w : World} (o : Oper) (hr : Region.ready md ops listed = [i]) (ho : ops[i]? = some o) (hw : Region.wanted o (yielded ops a.tmps) = true) {f : FuncId} {args : Array Value} (hv : (execOp a.eval o).run P w = .ok (.enter f args) w)
    (h : Calls P f args w fun e w' => ∃ v, e = .returned v ∧ S w' ∧ wpAnyH P md ops Q S n (listed.setIfInBounds i true) (a.put o.dst v) w') : wpAnyH P md ops Q S (n + 1) listed a w :=
  wpAnyH_all hr (by simp) fun j hj => by
    have hj : j = i := by simpa using hj
    subst hj
    refine wpOp_step ho fun K hK => ?_
    rw [if_pos hw]
    unfold Oper.wp
    rw [hv, Oper.upon_enter]
    refine Calls.mono h fun e w' ⟨v, he, hS, h⟩ => ?_
    subst he
    exact hK _ _ ⟨hS, h⟩
theorem put_nil {a : Act} {d : Option Tmp} {v : Value} (h : (a.put d v).defers = []) : a.defers = [] := by cases d <;> exact h
end
end Go.Proofs.Ytchjjbcmbdmlgaa
namespace Go.Proofs.Ytchjjbcmbdmlgaa
open Go.RowKit
theorem ret_int {k : IntKind} {a b : Int} (h : a = b) : Ending.returned (.int k a) = .returned (.int k b) := by rw [h]
theorem pow_le32 (n : Nat) (h : n ≤ 32) : 2 ^ n ≤ 4294967296 := Nat.pow_le_pow_right (by omega) h
def getF (w a n : Nat) : Nat := w / 2 ^ a % 2 ^ n
def putF (w a n v : Nat) : Nat := (w &&& (4294967295 - (2 ^ n - 1) * 2 ^ a)) ||| (v % 2 ^ n * 2 ^ a)
theorem field_top (a n : Nat) (h4 : a + n ≤ 32) : (2 ^ n - 1) * 2 ^ a < 4294967296 := by
  have h := pow_le32 (a + n) h4
  rw [Nat.pow_add, Nat.mul_comm] at h
  have := Nat.two_pow_pos a
  have := Nat.two_pow_pos n
  rw [Nat.sub_mul, Nat.one_mul]
  omega
theorem val_top (a n v : Nat) (h4 : a + n ≤ 32) : v % 2 ^ n * 2 ^ a < 4294967296 := by
  have h := pow_le32 (a + n) h4
  rw [Nat.pow_add, Nat.mul_comm] at h
  have h3 : v % 2 ^ n + 1 ≤ 2 ^ n := Nat.mod_lt _ (Nat.two_pow_pos n)
  have h5 := Nat.mul_le_mul_right (2 ^ a) h3
  rw [Nat.add_mul, Nat.one_mul] at h5
  have := Nat.two_pow_pos a
  omega
def bitN (v i : Nat) : Nat := v / 2 ^ i % 2
theorem bitN_lt (v i : Nat) : bitN v i < 2 := Nat.mod_lt _ (by omega)
theorem test_getF (w a n i : Nat) : (getF w a n).testBit i = (decide (i < n) && w.testBit (a + i)) := by
  unfold getF; rw [Nat.testBit_mod_two_pow, Nat.testBit_div_two_pow, Nat.add_comm]
theorem test_putF (w a n v i : Nat) (hw : w < 4294967296) (h4 : a + n ≤ 32) :
    (putF w a n v).testBit i = if a ≤ i ∧ i < a + n then v.testBit (i - a) else w.testBit i := by
  unfold putF
  have e : 4294967295 - (2 ^ n - 1) * 2 ^ a = 2 ^ 32 - ((2 ^ n - 1) * 2 ^ a + 1) := by omega
  have hw32 : w.testBit i = true → i < 32 := fun h => by
    refine Decidable.byContradiction fun hi => ?_
    have : w < 2 ^ i := Nat.lt_of_lt_of_le hw (Nat.pow_le_pow_right (n := 2) (by omega) (show 32 ≤ i by omega))
    rw [Nat.testBit_lt_two_pow this] at h; cases h
  rw [Nat.testBit_or, Nat.testBit_and, e, Nat.testBit_two_pow_sub_succ (field_top a n h4), Nat.testBit_mul_two_pow, Nat.testBit_mul_two_pow, Nat.testBit_mod_two_pow, Nat.testBit_two_pow_sub_one]
  by_cases h1 : a ≤ i <;> by_cases h2 : i < a + n
  · have : i - a < n := by omega
    have : i < 32 := by omega
    simp [*]
  · have : ¬ i - a < n := by omega
    simp [*]
    cases hb : w.testBit i <;> simp_all
  · have : i < 32 := by omega
    simp [*]
  · simp [*]
    cases hb : w.testBit i <;> simp_all
def fitsB (x : Int) (n : Nat) : Bool := x / 2 ^ (n - 1) == 0 || x / 2 ^ (n - 1) == -1
theorem fitsB_iff (x : Int) (n : Nat) : fitsB x n = true ↔ -(2 ^ (n - 1) : Nat) ≤ x ∧ x < (2 ^ (n - 1) : Nat) := by
  have hp : (0 : Int) < 2 ^ (n - 1) := Int.pow_pos (by decide)
  have hc : ((2 ^ (n - 1) : Nat) : Int) = 2 ^ (n - 1) := by rw [Int.natCast_pow]; rfl
  rw [hc]
  unfold fitsB
  generalize (2 : Int) ^ (n - 1) = p at *
  simp only [Bool.or_eq_true, beq_iff_eq]
  have h0 := Int.emod_nonneg x (Int.ne_of_gt hp)
  have h1 := Int.emod_lt_of_pos x hp
  have h2 := Int.mul_ediv_add_emod x p
  constructor
  · rintro (h | h) <;> rw [h] at h2
    · rw [Int.mul_zero] at h2; omega
    · rw [Int.mul_neg, Int.mul_one] at h2; omega
  · rintro ⟨ha, hb⟩
    by_cases hx : 0 ≤ x
    · left; exact Int.ediv_eq_zero_of_lt hx hb
    · right
      have e : x / p = (x + p) / p - 1 := by rw [Int.add_ediv_of_dvd_right ⟨1, by omega⟩, Int.ediv_self (by omega)]; omega
      rw [e, Int.ediv_eq_zero_of_lt (by omega) (by omega)]; rfl
def shrN (v j : Nat) : Nat := v / 2 ^ j
def powN (j : Nat) : Nat := 2 ^ j
theorem shrN_zero (v : Nat) : shrN v 0 = v := by simp [shrN]
theorem shrN_le (v j : Nat) : shrN v j ≤ v := Nat.div_le_self _ _
theorem shrN_succ (v j : Nat) : shrN v (j + 1) = shrN v j / 2 := by unfold shrN; rw [Nat.pow_succ, Nat.div_div_eq_div_mul]
theorem shrN_bit (v j : Nat) : shrN v j % 2 = bitN v j := rfl
theorem powN_succ (j : Nat) : powN (j + 1) = 2 * powN j := by unfold powN; rw [Nat.pow_succ, Nat.mul_comm]
theorem powN_le (i j : Nat) (h : i ≤ j) : powN i ≤ powN j := Nat.pow_le_pow_right (by omega) h
theorem powN_63 : powN 63 = 9223372036854775808 := by decide
def u64N (x : Int) : Nat := (x % 18446744073709551616).toNat
theorem u64N_lt (x : Int) : u64N x < 18446744073709551616 := by unfold u64N; omega
theorem u64N_eq (x : Int) : IntKind.u64.wrap x = ((u64N x : Nat) : Int) := by rw [IntKind.wrap_u64]; unfold u64N; omega
end Go.Proofs.Ytchjjbcmbdmlgaa
namespace Go.Proofs.Ytchjjbcmbdmlgaa
open Go.RowKit
def opL : List ByteArray := [⟨#[]⟩, ⟨#[108, 117, 105]⟩, ⟨#[97, 117, 105, 112, 99]⟩, ⟨#[106, 97, 108]⟩, ⟨#[106, 97, 108, 114]⟩, ⟨#[98, 101, 113]⟩, ⟨#[98, 110, 101]⟩, ⟨#[98, 108, 116]⟩, ⟨#[98, 103, 101]⟩, ⟨#[98, 108, 116, 117]⟩, ⟨#[98, 103, 101, 117]⟩, ⟨#[108, 98]⟩, ⟨#[108, 104]⟩, ⟨#[108, 119]⟩, ⟨#[108, 100]⟩, ⟨#[108, 98, 117]⟩, ⟨#[108, 104, 117]⟩, ⟨#[108, 119, 117]⟩, ⟨#[115, 98]⟩, ⟨#[115, 104]⟩, ⟨#[115, 119]⟩, ⟨#[115, 100]⟩, ⟨#[97, 100, 100, 105]⟩, ⟨#[115, 108, 116, 105]⟩, ⟨#[115, 108, 116, 105, 117]⟩, ⟨#[120, 111, 114, 105]⟩, ⟨#[111, 114, 105]⟩, ⟨#[97, 110, 100, 105]⟩, ⟨#[115, 108, 108, 105]⟩, ⟨#[115, 114, 108, 105]⟩, ⟨#[115, 114, 97, 105]⟩, ⟨#[97, 100, 100, 105, 119]⟩, ⟨#[115, 108, 108, 105, 119]⟩, ⟨#[115, 114, 108, 105, 119]⟩, ⟨#[115, 114, 97, 105, 119]⟩, ⟨#[97, 100, 100]⟩, ⟨#[115, 117, 98]⟩, ⟨#[115, 108, 108]⟩, ⟨#[115, 108, 116]⟩, ⟨#[115, 108, 116, 117]⟩, ⟨#[120, 111, 114]⟩, ⟨#[115, 114, 108]⟩, ⟨#[115, 114, 97]⟩, ⟨#[111, 114]⟩, ⟨#[97, 110, 100]⟩, ⟨#[97, 100, 100, 119]⟩, ⟨#[115, 117, 98, 119]⟩, ⟨#[115, 108, 108, 119]⟩, ⟨#[115, 114, 108, 119]⟩, ⟨#[115, 114, 97, 119]⟩, ⟨#[109, 117, 108]⟩, ⟨#[109, 117, 108, 104]⟩, ⟨#[109, 117, 108, 104, 115, 117]⟩, ⟨#[109, 117, 108, 104, 117]⟩, ⟨#[100, 105, 118]⟩, ⟨#[100, 105, 118, 117]⟩, ⟨#[114, 101, 109]⟩, ⟨#[114, 101, 109, 117]⟩, ⟨#[109, 117, 108, 119]⟩, ⟨#[100, 105, 118, 119]⟩, ⟨#[100, 105, 118, 117, 119]⟩, ⟨#[114, 101, 109, 119]⟩, ⟨#[114, 101, 109, 117, 119]⟩, ⟨#[102, 101, 110, 99, 101]⟩, ⟨#[101, 99, 97, 108, 108]⟩, ⟨#[101, 98, 114, 101, 97, 107]⟩, ⟨#[108, 114, 46, 119]⟩, ⟨#[115, 99, 46, 119]⟩, ⟨#[97, 109, 111, 115, 119, 97, 112, 46, 119]⟩, ⟨#[97, 109, 111, 97, 100, 100, 46, 119]⟩, ⟨#[97, 109, 111, 120, 111, 114, 46, 119]⟩, ⟨#[97, 109, 111, 97, 110, 100, 46, 119]⟩, ⟨#[97, 109, 111, 111, 114, 46, 119]⟩, ⟨#[97, 109, 111, 109, 105, 110, 46, 119]⟩, ⟨#[97, 109, 111, 109, 97, 120, 46, 119]⟩, ⟨#[97, 109, 111, 109, 105, 110, 117, 46, 119]⟩, ⟨#[97, 109, 111, 109, 97, 120, 117, 46, 119]⟩, ⟨#[108, 114, 46, 100]⟩, ⟨#[115, 99, 46, 100]⟩, ⟨#[97, 109, 111, 115, 119, 97, 112, 46, 100]⟩, ⟨#[97, 109, 111, 97, 100, 100, 46, 100]⟩, ⟨#[97, 109, 111, 120, 111, 114, 46, 100]⟩, ⟨#[97, 109, 111, 97, 110, 100, 46, 100]⟩, ⟨#[97, 109, 111, 111, 114, 46, 100]⟩, ⟨#[97, 109, 111, 109, 105, 110, 46, 100]⟩, ⟨#[97, 109, 111, 109, 97, 120, 46, 100]⟩, ⟨#[97, 109, 111, 109, 105, 110, 117, 46, 100]⟩, ⟨#[97, 109, 111, 109, 97, 120, 117, 46, 100]⟩]
def opS (r : Nat) : ByteArray := opL.getD r ⟨#[]⟩
def formL : List Int := [-1, 1, 1, 2, 3, 4, 4, 4, 4, 4, 4, 3, 3, 3, 3, 3, 3, 3, 5, 5, 5, 5, 3, 3, 3, 3, 3, 3, 7, 7, 7, 3, 8, 8, 8, 6, 6, 6, 6, 6, 6, 6, 6, 6, 6, 6, 6, 6, 6, 6, 6, 6, 6, 6, 6, 6, 6, 6, 6, 6, 6, 6, 6, 9, 0, 0, 10, 11, 11, 11, 11, 11, 11, 11, 11, 11, 11, 10, 11, 11, 11, 11, 11, 11, 11, 11, 11, 11]
def readL : List Bool := [false, false, false, false, false, false, false, false, false, false, false, true, true, true, true, true, true, true, false, false, false, false, false, false, false, false, false, false, false, false, false, false, false, false, false, false, false, false, false, false, false, false, false, false, false, false, false, false, false, false, false, false, false, false, false, false, false, false, false, false, false, false, false, false, false, false, true, false, true, true, true, true, true, true, true, true, true, true, false, true, true, true, true, true, true, true, true, true]
def writeL : List Bool := [false, false, false, false, false, false, false, false, false, false, false, false, false, false, false, false, false, false, true, true, true, true, false, false, false, false, false, false, false, false, false, false, false, false, false, false, false, false, false, false, false, false, false, false, false, false, false, false, false, false, false, false, false, false, false, false, false, false, false, false, false, false, false, false, false, false, false, true, true, true, true, true, true, true, true, true, true, false, true, true, true, true, true, true, true, true, true, true]
def atZ {α : Type} (l : List α) (d : α) (op : Int) : α := if 0 ≤ op then l.getD op.toNat d else d
def formZ (op : Int) : Int := atZ formL (-1) op
def readZ (op : Int) : Bool := atZ readL false op
def writeZ (op : Int) : Bool := atZ writeL false op
def nameZ (op : Int) : ByteArray := atZ opL ⟨#[]⟩ op
def okB (op : Int) : Bool := decide (1 ≤ op ∧ op ≤ 87)
def letL : List Int := [0, 85, 85, 74, 73, 66, 66, 66, 66, 66, 66, 73, 73, 73, 73, 73, 73, 73, 83, 83, 83, 83, 73, 73, 73, 73, 73, 73, 72, 72, 72, 73, 87, 87, 87, 82, 82, 82, 82, 82, 82, 82, 82, 82, 82, 82, 82, 82, 82, 82, 82, 82, 82, 82, 82, 82, 82, 82, 82, 82, 82, 82, 82, 70, 78, 78, 76, 65, 65, 65, 65, 65, 65, 65, 65, 65, 65, 76, 65, 65, 65, 65, 65, 65, 65, 65, 65, 65]
def letZ (op : Int) : Int := atZ letL 0 op
theorem atZ_nat {α : Type} (l : List α) (d : α) (n : Nat) : atZ l d (n : Int) = l.getD n d := by unfold atZ; rw [if_pos (by omega), Int.toNat_natCast]
theorem atZ_out {α : Type} (l : List α) (d : α) (op : Int) (h : op < 0 ∨ (l.length : Int) ≤ op) : atZ l d op = d := by
  unfold atZ
  by_cases h0 : 0 ≤ op
  · rw [if_pos h0, List.getD_eq_getElem?_getD, List.getElem?_eq_none (by omega)]; rfl
  · rw [if_neg h0]
theorem okB_nat (n : Nat) (h0 : 1 ≤ n) (h : n < 88) : okB (n : Int) = true := by unfold okB; rw [decide_eq_true_iff]; omega
theorem okB_out {op : Int} (h : op < 1 ∨ 87 < op) : okB op = false := by unfold okB; rw [decide_eq_false_iff_not]; omega
theorem op_cases (op : Int) : (∃ n : Nat, 1 ≤ n ∧ n < 88 ∧ op = (n : Int)) ∨ (op < 1 ∨ 87 < op) := by
  by_cases h : 1 ≤ op ∧ op ≤ 87
  · exact .inl ⟨op.toNat, by omega, by omega, by omega⟩
  · exact .inr (by omega)
theorem formZ_out {op : Int} (h : op < 1 ∨ 87 < op) : formZ op = -1 := by
  by_cases h0 : op = 0
  · subst h0; rfl
  · exact atZ_out _ _ _ (by have : formL.length = 88 := by decide +kernel
                            omega)
theorem readZ_out {op : Int} (h : op < 1 ∨ 87 < op) : readZ op = false := by
  by_cases h0 : op = 0
  · subst h0; rfl
  · exact atZ_out _ _ _ (by have : readL.length = 88 := by decide +kernel
                            omega)
theorem writeZ_out {op : Int} (h : op < 1 ∨ 87 < op) : writeZ op = false := by
  by_cases h0 : op = 0
  · subst h0; rfl
  · exact atZ_out _ _ _ (by have : writeL.length = 88 := by decide +kernel
                            omega)
theorem nameZ_out {op : Int} (h : op < 1 ∨ 87 < op) : nameZ op = ⟨#[]⟩ := by
  by_cases h0 : op = 0
  · subst h0; rfl
  · exact atZ_out _ _ _ (by have : opL.length = 88 := by decide +kernel
                            omega)
theorem letZ_out {op : Int} (h : op < 1 ∨ 87 < op) : letZ op = 0 := by
  by_cases h0 : op = 0
  · subst h0; rfl
  · exact atZ_out _ _ _ (by have : letL.length = 88 := by decide +kernel
                            omega)
def rdF (k : Int) : Bool := atZ [false, true, true, true, false, false, true, true, true, false, true, true] false k
def aF (k : Int) : Bool := atZ [false, false, false, true, true, true, true, true, true, false, true, true] false k
def bF (k : Int) : Bool := atZ [false, false, false, false, true, true, true, false, false, false, false, true] false k
def oF (k : Int) : Bool := atZ [false, false, false, false, false, false, false, false, false, false, true, true] false k
def fitZ (x n : Int) : Bool := if 1 ≤ n ∧ n ≤ 64 then fitsB x n.toNat else false
def regB (r : Int) (u : Bool) : Bool := if u = true then decide (0 ≤ r ∧ r ≤ 31) else decide (r = 0)
theorem reg_eq (r : Int) (u : Bool) : regB r u = bif u then decide (r ≥ 0) && decide (r ≤ 31) else r == 0 := by
  unfold regB; cases u <;> simp; rfl
def evenB (v : Int) : Bool := v.tmod 2 == 0
def btwB (v l m : Int) : Bool := decide (l ≤ v ∧ v ≤ m)
def wideB (op : Int) : Bool := op == 14 || (op == 21 || btwB op 77 87)
def immB (v k : Int) : Bool :=
  bif k == 1 then fitZ v 20 else bif k == 2 then evenB v && fitZ v 21 else bif k == 4 then evenB v && fitZ v 13 else bif k == 3 then fitZ v 12 else bif k == 5 then fitZ v 12
  else bif k == 7 then btwB v 0 63 else bif k == 8 then btwB v 0 31 else bif k == 9 then btwB v 0 255 else v == 0
structure In where
  op : Int
  rd : Int
  a : Int
  b : Int
  imm : Int
  aq : Bool
  rl : Bool
def inV (i : In) : Value := .agg #[.int .i64 i.op, .int .i64 i.rd, .int .i64 i.a, .int .i64 i.b, .int .i64 i.imm, .bool i.aq, .bool i.rl]
def mayB (i : In) : Bool :=
  okB i.op && (regB i.rd (rdF (formZ i.op)) && (regB i.a (aF (formZ i.op)) && (regB i.b (bF (formZ i.op)) && (immB i.imm (formZ i.op) && (oF (formZ i.op) || (!i.aq && !i.rl))))))
theorem nameZ_nat (n : Nat) : nameZ (n : Int) = opS n := atZ_nat opL _ n
def hasB (op : Int) (s : ByteArray) : Bool := s.data.toList.any fun c => (c.toNat : Int) == letZ op
theorem let_has' : ∀ n : Fin 88, hasB n.val ⟨#[85, 74, 73, 82, 72, 87, 76, 65]⟩ = rdF (formZ n.val) ∧ hasB n.val ⟨#[73, 66, 83, 82, 72, 87, 76, 65]⟩ = aF (formZ n.val) ∧ hasB n.val ⟨#[66, 83, 82, 65]⟩ = bF (formZ n.val) ∧ hasB n.val ⟨#[76, 65]⟩ = oF (formZ n.val) := by decide +kernel
end Go.Proofs.Ytchjjbcmbdmlgaa
namespace Go.Proofs.Ytchjjbcmbdmlgaa
open Go.RowKit
theorem refBit_any (v i : Nat) (w : World) (hv : v < 18446744073709551616) (hi : i ≤ 64) :
    Calls Try.prog 81 #[.int .u64 v, .int .i64 i] w fun e w' => e = .returned (.int .i64 (bitN v i : Nat)) ∧ w = w' := by
  go_enter Try.func81, Try.ntmps81
  go_wp2
  go_loop [0, 5] (fun a k => ∃ j : Nat, j ≤ i ∧ k = .int .i64 j ∧ a = .int .u64 (shrN v j : Nat)) (fun _ k => i - (intOf k).toNat)
  case atStart => exact ⟨0, Nat.zero_le _, rfl, by rw [shrN_zero]⟩
  case round =>
    obtain ⟨j, hj, rfl, rfl⟩ := hrel
    have hle := shrN_le v j
    by_cases hlt : j < i
    · have hs := hid (shrN_succ v j)
      go_wp2
      go_round
      case rel => exact ⟨j + 1, by omega, by go_num, by rw [hs.out]; go_num⟩
      case measure => simp [intOf]; omega
    · go_wp2
      go_ret
      obtain rfl : i = j := by omega
      exact ⟨ret_int (by rw [← shrN_bit]; omega), rfl⟩
theorem refPower_any (n : Nat) (w : World) (h2 : n ≤ 63) :
    Calls Try.prog 93 #[.int .i64 n] w fun e w' => e = .returned (.int .u64 (2 ^ n : Nat)) ∧ w = w' := by
  go_enter Try.func93, Try.ntmps93
  go_wp2
  go_loop [3, 4] (fun p k => ∃ j : Nat, j ≤ n ∧ k = .int .i64 j ∧ p = .int .u64 (powN j : Nat)) (fun _ k => n - (intOf k).toNat)
  case atStart => exact ⟨0, Nat.zero_le _, rfl, rfl⟩
  case round =>
    obtain ⟨j, hj, rfl, rfl⟩ := hrel
    by_cases hlt : j < n
    · have h1 := powN_le (j + 1) 63 (by omega)
      have hs := hid (powN_succ j)
      rw [powN_63] at h1
      have h3 : 2 * powN j ≤ 9223372036854775808 := by rw [← hs.out]; exact h1
      clear h1
      go_wp2
      go_round
      case rel => exact ⟨j + 1, by omega, by go_num, by rw [hs.out]; go_num⟩
      case measure => simp [intOf]; omega
    · go_wp2
      go_ret
      obtain rfl : n = j := by omega
      exact ⟨rfl, rfl⟩
end Go.Proofs.Ytchjjbcmbdmlgaa
namespace Go.Proofs.Ytchjjbcmbdmlgaa
open Go.RowKit
theorem or_field (w a n v : Nat) (hv : v < 2 ^ n) (hz : w / 2 ^ a % 2 ^ n = 0) : w ||| v * 2 ^ a = w + v * 2 ^ a := by
  have hr : w % 2 ^ a < 2 ^ a := Nat.mod_lt _ (Nat.two_pow_pos a)
  have hq : w = 2 ^ (a + n) * (w / 2 ^ a / 2 ^ n) + w % 2 ^ a := by
    have h1 := Nat.div_add_mod w (2 ^ a)
    have h2 := Nat.div_add_mod (w / 2 ^ a) (2 ^ n)
    rw [hz, Nat.add_zero] at h2
    rw [Nat.pow_add, Nat.mul_assoc, h2]; exact h1.symm
  generalize w % 2 ^ a = r at *
  generalize w / 2 ^ a / 2 ^ n = q at *
  subst hq
  have hle : 2 ^ a ≤ 2 ^ (a + n) := Nat.pow_le_pow_right (by omega) (by omega)
  have hm : 2 ^ a * v + r < 2 ^ (a + n) := by
    have : 2 ^ a * (v + 1) ≤ 2 ^ a * 2 ^ n := Nat.mul_le_mul_left _ hv
    rw [Nat.pow_add]; rw [Nat.mul_add] at this; omega
  have e1 : 2 ^ (a + n) * q + r + v * 2 ^ a = 2 ^ (a + n) * q + (2 ^ a * v + r) := by rw [Nat.mul_comm v]; omega
  rw [e1, Nat.two_pow_add_eq_or_of_lt hm, Nat.two_pow_add_eq_or_of_lt hr, Nat.two_pow_add_eq_or_of_lt (Nat.lt_of_lt_of_le hr hle), Nat.mul_comm v, Nat.or_assoc, Nat.or_comm r]
theorem put_or (w a n v : Nat) (hw : w < 4294967296) (h4 : a + n ≤ 32) (hz : w / 2 ^ a % 2 ^ n = 0) : putF w a n v = w + v % 2 ^ n * 2 ^ a := by
  rw [← or_field w a n (v % 2 ^ n) (Nat.mod_lt _ (Nat.two_pow_pos n)) hz]
  apply Nat.eq_of_testBit_eq
  intro i
  rw [test_putF _ _ _ _ _ hw h4, Nat.testBit_or, Nat.testBit_mul_two_pow, Nat.testBit_mod_two_pow]
  by_cases h : a ≤ i ∧ i < a + n
  · have h0 : w.testBit i = false := by
      have := test_getF w a n (i - a)
      rw [show getF w a n = 0 from hz, Nat.zero_testBit, show a + (i - a) = i by omega, decide_eq_true (show i - a < n by omega)] at this
      simpa using this.symm
    rw [if_pos h, h0, decide_eq_true (show i ≥ a from h.1), decide_eq_true (show i - a < n by omega)]; simp
  · rw [if_neg h]
    by_cases h1 : a ≤ i
    · rw [decide_eq_false (show ¬ i - a < n by omega)]; simp
    · rw [decide_eq_false (show ¬ i ≥ a by omega)]; simp
def wordL : List Int := [0, 55, 23, 111, 103, 99, 4195, 16483, 20579, 24675, 28771, 3, 4099, 8195, 12291, 16387, 20483, 24579, 35, 4131, 8227, 12323, 19, 8211, 12307, 16403, 24595, 28691, 4115, 20499, 1073762323, 27, 4123, 20507, 1073762331, 51, 1073741875, 4147, 8243, 12339, 16435, 20531, 1073762355, 24627, 28723, 59, 1073741883, 4155, 20539, 1073762363, 33554483, 33558579, 33562675, 33566771, 33570867, 33574963, 33579059, 33583155, 33554491, 33570875, 33574971, 33579067, 33583163, 15, 115, 1048691, 268443695, 402661423, 134225967, 8239, 536879151, 1610620975, 1073750063, 2147491887, 2684362799, 3221233711, 3758104623, 268447791, 402665519, 134230063, 12335, 536883247, 1610625071, 1073754159, 2147495983, 2684366895, 3221237807, 3758108719]
def wordZ (op : Int) : Int := atZ wordL 0 op
def immZ (k v : Int) : Int :=
  bif k == 1 then v % 1048576 * 4096
  else bif k == 2 then v / 1048576 % 2 * 2147483648 + v / 4096 % 256 * 4096 + v / 2048 % 2 * 1048576 + v / 2 % 1024 * 2097152
  else bif k == 3 then v % 4096 * 1048576
  else bif k == 4 then v / 4096 % 2 * 2147483648 + v / 2048 % 2 * 128 + v / 32 % 64 * 33554432 + v / 2 % 16 * 256
  else bif k == 5 then v / 32 % 128 * 33554432 + v % 32 * 128
  else bif k == 7 then v % 64 * 1048576
  else bif k == 8 then v % 32 * 1048576
  else bif k == 9 then v % 256 * 1048576
  else 0
def b01 (b : Bool) : Int := bif b then 1 else 0
def encZ (i : In) : Int := wordZ i.op + i.rd * 128 + i.a * 32768 + i.b * 1048576 + immZ (formZ i.op) i.imm + b01 i.aq * 67108864 + b01 i.rl * 33554432
def wordOk (k w : Int) : Bool := decide (0 ≤ w ∧ w < 4294967296) &&
  (bif k == 1 || k == 2 then decide (w < 128)
  else bif k == 3 || k == 4 || k == 5 then decide (w < 32768 ∧ w / 128 % 32 = 0)
  else bif k == 6 || k == 8 then decide (w / 128 % 32 = 0 ∧ w / 32768 % 1024 = 0)
  else bif k == 7 then decide (w / 128 % 32 = 0 ∧ w / 32768 % 2048 = 0)
  else bif k == 9 then decide (w = 15)
  else bif k == 10 || k == 11 then decide (w / 128 % 32 = 0 ∧ w / 32768 % 4096 = 0)
  else true)
theorem word_ok' : ∀ n : Fin 88, wordOk (formZ n.val) (wordZ n.val) = true := by decide +kernel
theorem wordOk_of {op : Int} (h : okB op = true) : wordOk (formZ op) (wordZ op) = true := by
  rcases op_cases op with ⟨n, h1, h2, rfl⟩ | h'
  · exact word_ok' ⟨n, h2⟩
  · rw [okB_out h'] at h; cases h
theorem form_rng' : ∀ n : Fin 88, n.val ≠ 0 → 0 ≤ formZ n.val ∧ formZ n.val ≤ 11 := by decide +kernel
theorem form_rng {op : Int} (h : okB op = true) : 0 ≤ formZ op ∧ formZ op ≤ 11 := by
  rcases op_cases op with ⟨n, h1, h2, rfl⟩ | h'
  · exact form_rng' ⟨n, h2⟩ (by simp; omega)
  · rw [okB_out h'] at h; cases h
structure Fld (k : Int) (W : Int) (i : In) : Prop where
  rd0 : 0 ≤ i.rd
  rd1 : i.rd ≤ 31
  rdn : rdF k = false → i.rd = 0
  a0 : 0 ≤ i.a
  a1 : i.a ≤ 31
  an : aF k = false → i.a = 0
  b0 : 0 ≤ i.b
  b1 : i.b ≤ 31
  bn : bF k = false → i.b = 0
  im : immB i.imm k = true
  aq : oF k = false → i.aq = false ∧ i.rl = false
  wd : wordOk k W = true
theorem reg_rng {r : Int} {u : Bool} (h : regB r u = true) : 0 ≤ r ∧ r ≤ 31 ∧ (u = false → r = 0) := by
  unfold regB at h
  split at h
  · rename_i hu; simp only [decide_eq_true_eq] at h; exact ⟨h.1, h.2, fun hn => by rw [hu] at hn; cases hn⟩
  · simp only [decide_eq_true_eq] at h; subst h; exact ⟨by omega, by omega, fun _ => rfl⟩
theorem may_ok {i : In} (h : mayB i = true) : okB i.op = true := by unfold mayB at h; simp only [Bool.and_eq_true] at h; exact h.1
theorem may_fld {i : In} (h : mayB i = true) : Fld (formZ i.op) (wordZ i.op) i := by
  have ho := may_ok h
  unfold mayB at h
  simp only [Bool.and_eq_true, Bool.or_eq_true, Bool.not_eq_true'] at h
  obtain ⟨_, h1, h2, h3, h4, h5⟩ := h
  obtain ⟨r0, r1, r2⟩ := reg_rng h1
  obtain ⟨a0, a1, a2⟩ := reg_rng h2
  obtain ⟨b0, b1, b2⟩ := reg_rng h3
  exact ⟨r0, r1, r2, a0, a1, a2, b0, b1, b2, h4, fun hn => by rcases h5 with h5 | h5
                                                              · rw [hn] at h5; cases h5
                                                              · exact h5, wordOk_of ho⟩
def immRg (k v : Int) : Prop :=
  (k = 1 → -524288 ≤ v ∧ v < 524288) ∧ (k = 2 → -1048576 ≤ v ∧ v < 1048576 ∧ v % 2 = 0) ∧ (k = 4 → -4096 ≤ v ∧ v < 4096 ∧ v % 2 = 0) ∧ (k = 3 ∨ k = 5 → -2048 ≤ v ∧ v < 2048) ∧ (k = 7 → 0 ≤ v ∧ v < 64) ∧ (k = 8 → 0 ≤ v ∧ v < 32) ∧ (k = 9 → 0 ≤ v ∧ v < 256) ∧ (k = 0 ∨ k = 6 ∨ k = 10 ∨ k = 11 → v = 0)
theorem fitZ_rng {v : Int} (n : Nat) (h : fitZ v n = true) (h1 : 1 ≤ n) (h2 : n ≤ 64) : -((2 ^ (n - 1) : Nat) : Int) ≤ v ∧ v < ((2 ^ (n - 1) : Nat) : Int) := by
  unfold fitZ at h
  rw [if_pos (by omega), Int.toNat_natCast] at h
  exact (fitsB_iff v n).mp h
theorem even_mod {v : Int} (h : evenB v = true) : v % 2 = 0 := by
  unfold evenB at h
  simp only [beq_iff_eq] at h
  exact Int.emod_eq_zero_of_dvd (Int.dvd_of_tmod_eq_zero h)
theorem imm_rng {k v : Int} (h : immB v k = true) (h0 : 0 ≤ k) (h1 : k ≤ 11) : immRg k v := by
  have hk : k = 0 ∨ k = 1 ∨ k = 2 ∨ k = 3 ∨ k = 4 ∨ k = 5 ∨ k = 6 ∨ k = 7 ∨ k = 8 ∨ k = 9 ∨ k = 10 ∨ k = 11 := by omega
  unfold immRg
  rcases hk with rfl | rfl | rfl | rfl | rfl | rfl | rfl | rfl | rfl | rfl | rfl | rfl
  all_goals simp [immB, btwB] at h
  · subst h; simp
  · have := fitZ_rng 20 h (by omega) (by omega); simp at this; omega
  · have := fitZ_rng 21 h.2 (by omega) (by omega); have := even_mod h.1; simp at *; omega
  · have := fitZ_rng 12 h (by omega) (by omega); simp at this; omega
  · have := fitZ_rng 13 h.2 (by omega) (by omega); have := even_mod h.1; simp at *; omega
  · have := fitZ_rng 12 h (by omega) (by omega); simp at this; omega
  all_goals omega
theorem parts_j (v : Int) (h0 : -1048576 ≤ v) (h1 : v < 1048576) (h2 : v % 2 = 0) : ∃ s p q r : Int, v / 1048576 % 2 = s ∧ v / 4096 % 256 = p ∧ v / 2048 % 2 = q ∧ v / 2 % 1024 = r ∧ v = s * 1048576 + r * 2 + q * 2048 + p * 4096 - 2 * s * 1048576 ∧ 0 ≤ s ∧ s < 2 ∧ 0 ≤ p ∧ p < 256 ∧ 0 ≤ q ∧ q < 2 ∧ 0 ≤ r ∧ r < 1024 :=
  ⟨_, _, _, _, rfl, rfl, rfl, rfl, by omega, by omega, by omega, by omega, by omega, by omega, by omega, by omega, by omega⟩
theorem parts_b (v : Int) (h0 : -4096 ≤ v) (h1 : v < 4096) (h2 : v % 2 = 0) : ∃ s p q r : Int, v / 4096 % 2 = s ∧ v / 2048 % 2 = q ∧ v / 32 % 64 = p ∧ v / 2 % 16 = r ∧ v = s * 4096 + p * 32 + r * 2 + q * 2048 - 2 * s * 4096 ∧ 0 ≤ s ∧ s < 2 ∧ 0 ≤ p ∧ p < 64 ∧ 0 ≤ q ∧ q < 2 ∧ 0 ≤ r ∧ r < 16 :=
  ⟨_, _, _, _, rfl, rfl, rfl, rfl, by omega, by omega, by omega, by omega, by omega, by omega, by omega, by omega, by omega⟩
theorem parts_w (W : Int) (h0 : 0 ≤ W) (h1 : W < 32768) (h2 : W / 128 % 32 = 0) : ∃ o f : Int, W = o + f * 4096 ∧ 0 ≤ o ∧ o < 128 ∧ 0 ≤ f ∧ f < 8 :=
  ⟨W % 128, W / 4096, by omega, by omega, by omega, by omega, by omega⟩
theorem parts_w2 (W : Int) (m p : Int) (h0 : 0 ≤ W) (h1 : W < 4294967296) (h2 : W / 128 % 32 = 0) (hm : m = 1024 ∧ p = 33554432 ∨ m = 2048 ∧ p = 67108864 ∨ m = 4096 ∧ p = 134217728) (h3 : W / 32768 % m = 0) : ∃ o f g : Int, W = o + f * 4096 + g * p ∧ 0 ≤ o ∧ o < 128 ∧ 0 ≤ f ∧ f < 8 ∧ 0 ≤ g ∧ g * p < 4294967296 := by
  rcases hm with ⟨rfl, rfl⟩ | ⟨rfl, rfl⟩ | ⟨rfl, rfl⟩
  · exact ⟨W % 128, W / 4096 % 8, W / 33554432, by omega, by omega, by omega, by omega, by omega, by omega, by omega⟩
  · exact ⟨W % 128, W / 4096 % 8, W / 67108864, by omega, by omega, by omega, by omega, by omega, by omega, by omega⟩
  · exact ⟨W % 128, W / 4096 % 8, W / 134217728, by omega, by omega, by omega, by omega, by omega, by omega, by omega⟩
end Go.Proofs.Ytchjjbcmbdmlgaa
