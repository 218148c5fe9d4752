/- Contracts of package image: Fetch, Place, PC and Addr; the laws of layer 8 on addresses. -/
import Derived.Test.YtimgongaenpgkaaDoorDecode
import Derived.Test.YtimgongaenpgkaaDoorAwake08
import Derived.Test.YtimgongaenpgkaaDoorOpen08
namespace Go.Proofs.YtimgongaenpgkaaDoor
open Go.RowKit Sim S2
set_option linter.unusedVariables false
set_option linter.unusedSimpArgs false

noncomputable def envF8 : S2.Env := envl Tryd.prog decGl noT (orP pDecode pRefDecode) noL (fun _ => none)
theorem envF8_ok : CallOk envF8 := envl_ok (.none _ _) (pDecode_ok.or pRefDecode_ok) (.none _ _) .none

def inV0 : Value := (Value.agg #[.int .i64 0, .int .i64 0, .int .i64 0, .int .i64 0, .int .i64 0, .bool false, .bool false])
/-- Is there an element at an address, and which? -/
def hasZ (b s : Int) (n : Nat) (a : Int) : Prop := b ≤ a ∧ (a - b) % s = 0 ∧ (a - b) / s < (n : Int)
def isI (a : Int) : Prop := -9223372036854775808 ≤ a ∧ a ≤ 9223372036854775807
noncomputable def qZ (b s a : Int) : Int := arZ .quo .i64 (a - b) s
noncomputable def mZ (b s a : Int) : Int := arZ .rem .i64 (a - b) s
noncomputable def nZ (s a : Int) : Int := arZ .rem .i64 a s
theorem qZ_eq {b s a : Int} (hb : 0 ≤ b) (hs : 0 < s) (h : b ≤ a) (ha : isI a) : qZ b s a = (a - b) / s := by
  unfold qZ
  rw [arZ_eq]
  show IntKind.i64.wrap ((a - b).tdiv s) = _
  rw [Int.tdiv_eq_ediv_of_nonneg (by omega), IntKind.wrap_i64]
  have h0 : 0 ≤ (a - b) / s := Int.ediv_nonneg (by omega) (by omega)
  have h1 : (a - b) / s ≤ a - b := Int.ediv_le_self s (by omega)
  have := ha.2
  omega
theorem mZ_eq {b s a : Int} (h : b ≤ a) : mZ b s a = (a - b) % s := by
  unfold mZ
  rw [arZ_eq]
  show (a - b).tmod s = _
  exact Int.tmod_eq_emod_of_nonneg (by omega)
theorem nZ_eq {s a : Int} (h : 0 ≤ a) : nZ s a = a % s := by
  unfold nZ
  rw [arZ_eq]
  show a.tmod s = _
  exact Int.tmod_eq_emod_of_nonneg h
theorem bneT {x y : Int} (h : x ≠ y) : (x != y) = true := by simpa using h
theorem bneF {x y : Int} (h : x = y) : (x != y) = false := by simpa using h
def inB3 (b s : Int) (n : Nat) : List (Bool × Bool) := [(pre (inI (b + s * n - s)), true), (pre (inI (b + s * n)), true), (pre (inI (s * n)), true)]

theorem w32B_of {x : Int} (h : 0 ≤ x ∧ x < 4294967296) : w32B x = true := by
  unfold w32B
  simp only [Bool.and_eq_true, decide_eq_true_eq]
  first | exact h | omega
theorem fe1 (i : Im) (a : Int) : S2.simF envF8 1000 30 [] [true] 7 [[], [true]] [imX false i, .inl (.int .i64 a)] = some (false, [.inl (.tuple #[inV0, .bool false])], [(decide (a < 65536), true)], []) := by kernel_rfl
theorem fe2 (i : Im) (a : Int) : S2.simF envF8 1000 30 [] [false, true] 7 [[], [true]] [imX false i, .inl (.int .i64 a)] = some (false, [.inl (.tuple #[inV0, .bool false])], [(mZ 65536 4 a != 0, true), (pre (inI (a - 65536)), true), (decide (a < 65536), false)], []) := by kernel_rfl
theorem fe3 (i : Im) (a : Int) : S2.simF envF8 1000 30 [] [false, false, true] 7 [[], [true]] [imX false i, .inl (.int .i64 a)] = some (false, [.inl (.tuple #[inV0, .bool false])], [(decide (qZ 65536 4 a ≥ (i.n : Int)), true), (mZ 65536 4 a != 0, false), (pre (inI (a - 65536)), true), (decide (a < 65536), false)], []) := by kernel_rfl
theorem fe4 (i : Im) (a : Int) : S2.simF envF8 1000 30 [] [false, false, false, false] 7 [[], [true]] [imX false i, .inl (.int .i64 a)] = some (false, [.inl (.tuple #[inV (decodeZ (i.c (qZ 65536 4 a).toNat)), .bool true])], [(pre (w32B (i.c (qZ 65536 4 a).toNat)), true), (pre (decide ((qZ 65536 4 a).toNat < i.n)), true), (pre (idxB (qZ 65536 4 a) i.n), true), (false, false), (decide (qZ 65536 4 a ≥ (i.n : Int)), false), (mZ 65536 4 a != 0, false), (pre (inI (a - 65536)), true), (decide (a < 65536), false)], []) := by kernel_rfl
theorem fer1 (i : Im) (a : Int) : S2.simF envF8 1000 30 [] [true] 8 [[], [true]] [imX false i, .inl (.int .i64 a)] = some (false, [.inl (.tuple #[inV0, .bool false])], [(decide (a < 65536), true)], []) := by kernel_rfl
theorem fer2 (i : Im) (a : Int) : S2.simF envF8 1000 30 [] [false, true] 8 [[], [true]] [imX false i, .inl (.int .i64 a)] = some (false, [.inl (.tuple #[inV0, .bool false])], [(decide (a > (65536 + 4 * (i.n : Int) - 4)), true), (pre (inI (65536 + 4 * (i.n : Int) - 4)), true), (pre (inI (65536 + 4 * (i.n : Int))), true), (pre (inI (4 * (i.n : Int))), true), (decide (a < 65536), false)], []) := by kernel_rfl
theorem fer3 (i : Im) (a : Int) : S2.simF envF8 1000 30 [] [false, false, true] 8 [[], [true]] [imX false i, .inl (.int .i64 a)] = some (false, [.inl (.tuple #[inV0, .bool false])], [(nZ 4 a != 0, true), (decide (a > (65536 + 4 * (i.n : Int) - 4)), false), (pre (inI (65536 + 4 * (i.n : Int) - 4)), true), (pre (inI (65536 + 4 * (i.n : Int))), true), (pre (inI (4 * (i.n : Int))), true), (decide (a < 65536), false)], []) := by kernel_rfl
theorem fer4 (i : Im) (a : Int) : S2.simF envF8 1000 30 [] [false, false, false, false] 8 [[], [true]] [imX false i, .inl (.int .i64 a)] = some (false, [.inl (.tuple #[inV (decodeZ (i.c (qZ 65536 4 a).toNat)), .bool true])], [(pre (w32B (i.c (qZ 65536 4 a).toNat)), true), (pre (decide ((qZ 65536 4 a).toNat < i.n)), true), (pre (idxB (qZ 65536 4 a) i.n), true), (decide (qZ 65536 4 a < 0), false), (pre (inI (a - 65536)), true), (nZ 4 a != 0, false), (decide (a > (65536 + 4 * (i.n : Int) - 4)), false), (pre (inI (65536 + 4 * (i.n : Int) - 4)), true), (pre (inI (65536 + 4 * (i.n : Int))), true), (pre (inI (4 * (i.n : Int))), true), (decide (a < 65536), false)], []) := by kernel_rfl
theorem fe_no (i : Im) (a : Int) (hs : smallIm i) (ha : isI a) (w : World) (hG : GlobOk decGl w) (vals : List Value) (hv : ArgsOk w [imX false i, .inl (.int .i64 a)] vals) (h : ¬ hasZ 65536 4 i.n a) : LRet Tryd.prog 7 vals false [.inl (.tuple #[inV0, .bool false])] w := by
  obtain ⟨ha0, ha1⟩ := ha
  by_cases c1 : a < 65536
  · exact fn_ok envF8_ok (fe1 i a) (all_cons (ob_yes c1) all_nil) Tryd.func7 w vals hG hv fun t ht => by cases ht
  have e2 := mZ_eq (b := 65536) (s := 4) (a := a) (by omega)
  have e1 := qZ_eq (b := 65536) (s := 4) (a := a) (by decide) (by decide) (by omega) ⟨ha0, ha1⟩
  by_cases c2 : (a - 65536) % 4 = 0
  · by_cases c3 : (a - 65536) / 4 < (i.n : Int)
    · exact absurd ⟨by omega, c2, c3⟩ h
    · exact fn_ok envF8_ok (fe3 i a) (all_cons (ob_yes (by rw [e1]; omega)) <| all_cons (bneF (by rw [e2]; exact c2)) <| all_cons (ob_inI (by omega)) <| all_cons (ob_no c1) all_nil) Tryd.func7 w vals hG hv fun t ht => by cases ht
  · exact fn_ok envF8_ok (fe2 i a) (all_cons (bneT (by rw [e2]; exact c2)) <| all_cons (ob_inI (by omega)) <| all_cons (ob_no c1) all_nil) Tryd.func7 w vals hG hv fun t ht => by cases ht
theorem fe_yes (i : Im) (a : Int) (hs : smallIm i) (ha : isI a) (w : World) (hG : GlobOk decGl w) (vals : List Value) (hv : ArgsOk w [imX false i, .inl (.int .i64 a)] vals) (hc : c32 i) (h : hasZ 65536 4 i.n a) : LRet Tryd.prog 7 vals false [.inl (.tuple #[inV (decodeZ (i.c (qZ 65536 4 a).toNat)), .bool true])] w := by
  obtain ⟨ha0, ha1⟩ := ha
  obtain ⟨c1, c2, c3⟩ := h
  have e2 := mZ_eq (b := 65536) (s := 4) (a := a) (by omega)
  have e1 := qZ_eq (b := 65536) (s := 4) (a := a) (by decide) (by decide) (by omega) ⟨ha0, ha1⟩
  have hlt : (qZ 65536 4 a).toNat < i.n := by rw [e1]; omega
  exact fn_ok envF8_ok (fe4 i a) (all_cons (by unfold pre; exact w32B_of (hc _ hlt)) <| all_cons (ob_lt hlt) <| all_cons (ob_idx (by rw [e1]; omega)) <| all_cons rfl <| all_cons (ob_no (by rw [e1]; omega)) <| all_cons (bneF (by rw [e2]; exact c2)) <| all_cons (ob_inI (by omega)) <| all_cons (ob_no (by omega)) all_nil) Tryd.func7 w vals hG hv fun t ht => by cases ht
theorem fer_no (i : Im) (a : Int) (hs : smallIm i) (ha : isI a) (w : World) (hG : GlobOk decGl w) (vals : List Value) (hv : ArgsOk w [imX false i, .inl (.int .i64 a)] vals) (h : ¬ hasZ 65536 4 i.n a) : LRet Tryd.prog 8 vals false [.inl (.tuple #[inV0, .bool false])] w := by
  obtain ⟨ha0, ha1⟩ := ha
  have hn := hs.1
  by_cases c1 : a < 65536
  · exact fn_ok envF8_ok (fer1 i a) (all_cons (ob_yes c1) all_nil) Tryd.func8 w vals hG hv fun t ht => by cases ht
  by_cases c2 : a > 65536 + 4 * (i.n : Int) - 4
  · exact fn_ok envF8_ok (fer2 i a) (all_cons (ob_yes c2) <| all_cons (ob_inI (by omega)) <| all_cons (ob_inI (by omega)) <| all_cons (ob_inI (by omega)) <| all_cons (ob_no c1) all_nil) Tryd.func8 w vals hG hv fun t ht => by cases ht
  have e3 := nZ_eq (s := 4) (a := a) (by omega)
  by_cases c3 : a % 4 = 0
  · exact absurd ⟨by omega, by omega, by omega⟩ h
  · exact fn_ok envF8_ok (fer3 i a) (all_cons (bneT (by rw [e3]; exact c3)) <| all_cons (ob_no c2) <| all_cons (ob_inI (by omega)) <| all_cons (ob_inI (by omega)) <| all_cons (ob_inI (by omega)) <| all_cons (ob_no c1) all_nil) Tryd.func8 w vals hG hv fun t ht => by cases ht
theorem fer_yes (i : Im) (a : Int) (hs : smallIm i) (ha : isI a) (w : World) (hG : GlobOk decGl w) (vals : List Value) (hv : ArgsOk w [imX false i, .inl (.int .i64 a)] vals) (hc : c32 i) (h : hasZ 65536 4 i.n a) : LRet Tryd.prog 8 vals false [.inl (.tuple #[inV (decodeZ (i.c (qZ 65536 4 a).toNat)), .bool true])] w := by
  obtain ⟨ha0, ha1⟩ := ha
  have hn := hs.1
  obtain ⟨c1, c2, c3⟩ := h
  have e1 := qZ_eq (b := 65536) (s := 4) (a := a) (by decide) (by decide) (by omega) ⟨ha0, ha1⟩
  have e3 := nZ_eq (s := 4) (a := a) (by omega)
  have hlt : (qZ 65536 4 a).toNat < i.n := by rw [e1]; omega
  exact fn_ok envF8_ok (fer4 i a) (all_cons (by unfold pre; exact w32B_of (hc _ hlt)) <| all_cons (ob_lt hlt) <| all_cons (ob_idx (by rw [e1]; omega)) <| all_cons (ob_no (by rw [e1]; omega)) <| all_cons (ob_inI (by omega)) <| all_cons (bneF (by rw [e3]; omega)) <| all_cons (ob_no (by omega)) <| all_cons (ob_inI (by omega)) <| all_cons (ob_inI (by omega)) <| all_cons (ob_inI (by omega)) <| all_cons (ob_no (by omega)) all_nil) Tryd.func8 w vals hG hv fun t ht => by cases ht
noncomputable def lfe (q : Bool) (i : Im) : LTab := lrow 7 fun args => match args with
  | [.st cs, .inl (.int .i64 a)] => bif q then some (false, [.inl (.tuple #[inV (decodeZ (i.c (qZ 65536 4 a).toNat)), .bool true])], pre (propB (isIm i cs ∧ smallIm i ∧ isI a ∧ hasZ 65536 4 i.n a ∧ c32 i)))
      else some (false, [.inl (.tuple #[inV0, .bool false])], pre (propB (isIm i cs ∧ smallIm i ∧ isI a ∧ ¬ hasZ 65536 4 i.n a)))
  | _ => none
theorem lfe_ok (q : Bool) (i : Im) : LTabOk Tryd.prog decGl (lfe q i) := .row fun args tup res h w vals hG ha => by
  split at h
  · rename_i cs a
    cases q
    · simp only [cond_false, Option.some.injEq, Prod.mk.injEq] at h
      obtain ⟨rfl, rfl, hp⟩ := h
      obtain ⟨h1, h2, h3, h4⟩ := propB_ok.mp hp
      obtain ⟨v, vs, rfl, g1, g2⟩ := isIm_ok h1 ha
      exact fe_no i a h2 h3 w hG (v :: vs) ⟨g1.1, g2⟩ h4
    · simp only [cond_true, Option.some.injEq, Prod.mk.injEq] at h
      obtain ⟨rfl, rfl, hp⟩ := h
      obtain ⟨h1, h2, h3, h4, hc⟩ := propB_ok.mp hp
      obtain ⟨v, vs, rfl, g1, g2⟩ := isIm_ok h1 ha
      exact fe_yes i a h2 h3 w hG (v :: vs) ⟨g1.1, g2⟩ hc h4
  · cases h
noncomputable def lfer (q : Bool) (i : Im) : LTab := lrow 8 fun args => match args with
  | [.st cs, .inl (.int .i64 a)] => bif q then some (false, [.inl (.tuple #[inV (decodeZ (i.c (qZ 65536 4 a).toNat)), .bool true])], pre (propB (isIm i cs ∧ smallIm i ∧ isI a ∧ hasZ 65536 4 i.n a ∧ c32 i)))
      else some (false, [.inl (.tuple #[inV0, .bool false])], pre (propB (isIm i cs ∧ smallIm i ∧ isI a ∧ ¬ hasZ 65536 4 i.n a)))
  | _ => none
theorem lfer_ok (q : Bool) (i : Im) : LTabOk Tryd.prog decGl (lfer q i) := .row fun args tup res h w vals hG ha => by
  split at h
  · rename_i cs a
    cases q
    · simp only [cond_false, Option.some.injEq, Prod.mk.injEq] at h
      obtain ⟨rfl, rfl, hp⟩ := h
      obtain ⟨h1, h2, h3, h4⟩ := propB_ok.mp hp
      obtain ⟨v, vs, rfl, g1, g2⟩ := isIm_ok h1 ha
      exact fer_no i a h2 h3 w hG (v :: vs) ⟨g1.1, g2⟩ h4
    · simp only [cond_true, Option.some.injEq, Prod.mk.injEq] at h
      obtain ⟨rfl, rfl, hp⟩ := h
      obtain ⟨h1, h2, h3, h4, hc⟩ := propB_ok.mp hp
      obtain ⟨v, vs, rfl, g1, g2⟩ := isIm_ok h1 ha
      exact fer_yes i a h2 h3 w hG (v :: vs) ⟨g1.1, g2⟩ hc h4
  · cases h
theorem pl1 (i : Im) (a : Int) : S2.simF envF8 1000 30 [] [true] 9 [[], [true]] [imX false i, .inl (.int .i64 a)] = some (false, [.inl (.tuple #[.int .i64 0, .bool false])], [(decide (a < 16777216), true)], []) := by kernel_rfl
theorem pl2 (i : Im) (a : Int) : S2.simF envF8 1000 30 [] [false, true] 9 [[], [true]] [imX false i, .inl (.int .i64 a)] = some (false, [.inl (.tuple #[.int .i64 0, .bool false])], [(mZ 16777216 8 a != 0, true), (pre (inI (a - 16777216)), true), (decide (a < 16777216), false)], []) := by kernel_rfl
theorem pl3 (i : Im) (a : Int) : S2.simF envF8 1000 30 [] [false, false, true] 9 [[], [true]] [imX false i, .inl (.int .i64 a)] = some (false, [.inl (.tuple #[.int .i64 0, .bool false])], [(decide (qZ 16777216 8 a ≥ (i.m : Int)), true), (mZ 16777216 8 a != 0, false), (pre (inI (a - 16777216)), true), (decide (a < 16777216), false)], []) := by kernel_rfl
theorem pl4 (i : Im) (a : Int) : S2.simF envF8 1000 30 [] [false, false, false] 9 [[], [true]] [imX false i, .inl (.int .i64 a)] = some (false, [.inl (.tuple #[.int .i64 (qZ 16777216 8 a), .bool true])], [(decide (qZ 16777216 8 a ≥ (i.m : Int)), false), (mZ 16777216 8 a != 0, false), (pre (inI (a - 16777216)), true), (decide (a < 16777216), false)], []) := by kernel_rfl
theorem plr1 (i : Im) (a : Int) : S2.simF envF8 1000 30 [] [true] 10 [[], [true]] [imX false i, .inl (.int .i64 a)] = some (false, [.inl (.int .i64 (-1))], [(decide (a < 16777216), true)], []) := by kernel_rfl
theorem plr2 (i : Im) (a : Int) : S2.simF envF8 1000 30 [] [false, true] 10 [[], [true]] [imX false i, .inl (.int .i64 a)] = some (false, [.inl (.int .i64 (-1))], [(decide (a > (16777216 + 8 * (i.m : Int) - 8)), true), (pre (inI (16777216 + 8 * (i.m : Int) - 8)), true), (pre (inI (16777216 + 8 * (i.m : Int))), true), (pre (inI (8 * (i.m : Int))), true), (decide (a < 16777216), false)], []) := by kernel_rfl
theorem plr3 (i : Im) (a : Int) : S2.simF envF8 1000 30 [] [false, false, true] 10 [[], [true]] [imX false i, .inl (.int .i64 a)] = some (false, [.inl (.int .i64 (-1))], [(nZ 8 a != 0, true), (decide (a > (16777216 + 8 * (i.m : Int) - 8)), false), (pre (inI (16777216 + 8 * (i.m : Int) - 8)), true), (pre (inI (16777216 + 8 * (i.m : Int))), true), (pre (inI (8 * (i.m : Int))), true), (decide (a < 16777216), false)], []) := by kernel_rfl
theorem plr4 (i : Im) (a : Int) : S2.simF envF8 1000 30 [] [false, false, false] 10 [[], [true]] [imX false i, .inl (.int .i64 a)] = some (false, [.inl (.int .i64 (qZ 16777216 8 a))], [(pre (inI (a - 16777216)), true), (nZ 8 a != 0, false), (decide (a > (16777216 + 8 * (i.m : Int) - 8)), false), (pre (inI (16777216 + 8 * (i.m : Int) - 8)), true), (pre (inI (16777216 + 8 * (i.m : Int))), true), (pre (inI (8 * (i.m : Int))), true), (decide (a < 16777216), false)], []) := by kernel_rfl
theorem pl_no (i : Im) (a : Int) (hs : smallIm i) (ha : isI a) (w : World) (hG : GlobOk decGl w) (vals : List Value) (hv : ArgsOk w [imX false i, .inl (.int .i64 a)] vals) (h : ¬ hasZ 16777216 8 i.m a) : LRet Tryd.prog 9 vals false [.inl (.tuple #[.int .i64 0, .bool false])] w := by
  obtain ⟨ha0, ha1⟩ := ha
  by_cases c1 : a < 16777216
  · exact fn_ok envF8_ok (pl1 i a) (all_cons (ob_yes c1) all_nil) Tryd.func9 w vals hG hv fun t ht => by cases ht
  have e2 := mZ_eq (b := 16777216) (s := 8) (a := a) (by omega)
  have e1 := qZ_eq (b := 16777216) (s := 8) (a := a) (by decide) (by decide) (by omega) ⟨ha0, ha1⟩
  by_cases c2 : (a - 16777216) % 8 = 0
  · by_cases c3 : (a - 16777216) / 8 < (i.m : Int)
    · exact absurd ⟨by omega, c2, c3⟩ h
    · exact fn_ok envF8_ok (pl3 i a) (all_cons (ob_yes (by rw [e1]; omega)) <| all_cons (bneF (by rw [e2]; exact c2)) <| all_cons (ob_inI (by omega)) <| all_cons (ob_no c1) all_nil) Tryd.func9 w vals hG hv fun t ht => by cases ht
  · exact fn_ok envF8_ok (pl2 i a) (all_cons (bneT (by rw [e2]; exact c2)) <| all_cons (ob_inI (by omega)) <| all_cons (ob_no c1) all_nil) Tryd.func9 w vals hG hv fun t ht => by cases ht
theorem pl_yes (i : Im) (a : Int) (hs : smallIm i) (ha : isI a) (w : World) (hG : GlobOk decGl w) (vals : List Value) (hv : ArgsOk w [imX false i, .inl (.int .i64 a)] vals) (h : hasZ 16777216 8 i.m a) : LRet Tryd.prog 9 vals false [.inl (.tuple #[.int .i64 (qZ 16777216 8 a), .bool true])] w := by
  obtain ⟨ha0, ha1⟩ := ha
  obtain ⟨c1, c2, c3⟩ := h
  have e2 := mZ_eq (b := 16777216) (s := 8) (a := a) (by omega)
  have e1 := qZ_eq (b := 16777216) (s := 8) (a := a) (by decide) (by decide) (by omega) ⟨ha0, ha1⟩
  have hlt : (qZ 16777216 8 a).toNat < i.m := by rw [e1]; omega
  exact fn_ok envF8_ok (pl4 i a) (all_cons (ob_no (by rw [e1]; omega)) <| all_cons (bneF (by rw [e2]; exact c2)) <| all_cons (ob_inI (by omega)) <| all_cons (ob_no (by omega)) all_nil) Tryd.func9 w vals hG hv fun t ht => by cases ht
theorem plr_no (i : Im) (a : Int) (hs : smallIm i) (ha : isI a) (w : World) (hG : GlobOk decGl w) (vals : List Value) (hv : ArgsOk w [imX false i, .inl (.int .i64 a)] vals) (h : ¬ hasZ 16777216 8 i.m a) : LRet Tryd.prog 10 vals false [.inl (.int .i64 (-1))] w := by
  obtain ⟨ha0, ha1⟩ := ha
  have hn := hs.2.1
  by_cases c1 : a < 16777216
  · exact fn_ok envF8_ok (plr1 i a) (all_cons (ob_yes c1) all_nil) Tryd.func10 w vals hG hv fun t ht => by cases ht
  by_cases c2 : a > 16777216 + 8 * (i.m : Int) - 8
  · exact fn_ok envF8_ok (plr2 i a) (all_cons (ob_yes c2) <| all_cons (ob_inI (by omega)) <| all_cons (ob_inI (by omega)) <| all_cons (ob_inI (by omega)) <| all_cons (ob_no c1) all_nil) Tryd.func10 w vals hG hv fun t ht => by cases ht
  have e3 := nZ_eq (s := 8) (a := a) (by omega)
  by_cases c3 : a % 8 = 0
  · exact absurd ⟨by omega, by omega, by omega⟩ h
  · exact fn_ok envF8_ok (plr3 i a) (all_cons (bneT (by rw [e3]; exact c3)) <| all_cons (ob_no c2) <| all_cons (ob_inI (by omega)) <| all_cons (ob_inI (by omega)) <| all_cons (ob_inI (by omega)) <| all_cons (ob_no c1) all_nil) Tryd.func10 w vals hG hv fun t ht => by cases ht
theorem plr_yes (i : Im) (a : Int) (hs : smallIm i) (ha : isI a) (w : World) (hG : GlobOk decGl w) (vals : List Value) (hv : ArgsOk w [imX false i, .inl (.int .i64 a)] vals) (h : hasZ 16777216 8 i.m a) : LRet Tryd.prog 10 vals false [.inl (.int .i64 (qZ 16777216 8 a))] w := by
  obtain ⟨ha0, ha1⟩ := ha
  have hn := hs.2.1
  obtain ⟨c1, c2, c3⟩ := h
  have e1 := qZ_eq (b := 16777216) (s := 8) (a := a) (by decide) (by decide) (by omega) ⟨ha0, ha1⟩
  have e3 := nZ_eq (s := 8) (a := a) (by omega)
  have hlt : (qZ 16777216 8 a).toNat < i.m := by rw [e1]; omega
  exact fn_ok envF8_ok (plr4 i a) (all_cons (ob_inI (by omega)) <| all_cons (bneF (by rw [e3]; omega)) <| all_cons (ob_no (by omega)) <| all_cons (ob_inI (by omega)) <| all_cons (ob_inI (by omega)) <| all_cons (ob_inI (by omega)) <| all_cons (ob_no (by omega)) all_nil) Tryd.func10 w vals hG hv fun t ht => by cases ht
noncomputable def lpl (q : Bool) (i : Im) : LTab := lrow 9 fun args => match args with
  | [.st cs, .inl (.int .i64 a)] => bif q then some (false, [.inl (.tuple #[.int .i64 (qZ 16777216 8 a), .bool true])], pre (propB (isIm i cs ∧ smallIm i ∧ isI a ∧ hasZ 16777216 8 i.m a)))
      else some (false, [.inl (.tuple #[.int .i64 0, .bool false])], pre (propB (isIm i cs ∧ smallIm i ∧ isI a ∧ ¬ hasZ 16777216 8 i.m a)))
  | _ => none
theorem lpl_ok (q : Bool) (i : Im) : LTabOk Tryd.prog decGl (lpl q i) := .row fun args tup res h w vals hG ha => by
  split at h
  · rename_i cs a
    cases q
    · simp only [cond_false, Option.some.injEq, Prod.mk.injEq] at h
      obtain ⟨rfl, rfl, hp⟩ := h
      obtain ⟨h1, h2, h3, h4⟩ := propB_ok.mp hp
      obtain ⟨v, vs, rfl, g1, g2⟩ := isIm_ok h1 ha
      exact pl_no i a h2 h3 w hG (v :: vs) ⟨g1.1, g2⟩ h4
    · simp only [cond_true, Option.some.injEq, Prod.mk.injEq] at h
      obtain ⟨rfl, rfl, hp⟩ := h
      obtain ⟨h1, h2, h3, h4⟩ := propB_ok.mp hp
      obtain ⟨v, vs, rfl, g1, g2⟩ := isIm_ok h1 ha
      exact pl_yes i a h2 h3 w hG (v :: vs) ⟨g1.1, g2⟩ h4
  · cases h
noncomputable def lplr (q : Bool) (i : Im) : LTab := lrow 10 fun args => match args with
  | [.st cs, .inl (.int .i64 a)] => bif q then some (false, [.inl (.int .i64 (qZ 16777216 8 a))], pre (propB (isIm i cs ∧ smallIm i ∧ isI a ∧ hasZ 16777216 8 i.m a)))
      else some (false, [.inl (.int .i64 (-1))], pre (propB (isIm i cs ∧ smallIm i ∧ isI a ∧ ¬ hasZ 16777216 8 i.m a)))
  | _ => none
theorem lplr_ok (q : Bool) (i : Im) : LTabOk Tryd.prog decGl (lplr q i) := .row fun args tup res h w vals hG ha => by
  split at h
  · rename_i cs a
    cases q
    · simp only [cond_false, Option.some.injEq, Prod.mk.injEq] at h
      obtain ⟨rfl, rfl, hp⟩ := h
      obtain ⟨h1, h2, h3, h4⟩ := propB_ok.mp hp
      obtain ⟨v, vs, rfl, g1, g2⟩ := isIm_ok h1 ha
      exact plr_no i a h2 h3 w hG (v :: vs) ⟨g1.1, g2⟩ h4
    · simp only [cond_true, Option.some.injEq, Prod.mk.injEq] at h
      obtain ⟨rfl, rfl, hp⟩ := h
      obtain ⟨h1, h2, h3, h4⟩ := propB_ok.mp hp
      obtain ⟨v, vs, rfl, g1, g2⟩ := isIm_ok h1 ha
      exact plr_yes i a h2 h3 w hG (v :: vs) ⟨g1.1, g2⟩ h4
  · cases h
noncomputable def lPl8 (q r : Bool) (i : Im) : LTab := orL (lfe q i) (orL (lfer q i) (orL (lpl r i) (lplr r i)))
noncomputable def envPl (q r : Bool) (i : Im) : S2.Env := envl Tryd.prog decGl tAw8 noP (lPl8 q r i) (fun _ => none)
theorem envPl_ok (q r : Bool) (i : Im) : CallOk (envPl q r i) := envl_ok tAw8_ok (.none _ _) ((lfe_ok q i).or ((lfer_ok q i).or ((lpl_ok r i).or (lplr_ok r i)))) .none
theorem ip_large1 (i : Im) (a : Int) : S2.simF (envPl false false i) 1000 30 [] [true] 3 [[], [true]] [imX false i, .inl (.int .i64 a)] = some (false, [.inl (.bool true)], [(decide ((i.n : Int) > 2000), true)], []) := by kernel_rfl
theorem ip_large2 (i : Im) (a : Int) : S2.simF (envPl false false i) 1000 30 [] [false, true] 3 [[], [true]] [imX false i, .inl (.int .i64 a)] = some (false, [.inl (.bool true)], [(decide ((i.m : Int) > 5000), true), (decide ((i.n : Int) > 2000), false)], []) := by kernel_rfl
theorem ip_large3 (i : Im) (a : Int) : S2.simF (envPl false false i) 1000 30 [] [false, false, true] 3 [[], [true]] [imX false i, .inl (.int .i64 a)] = some (false, [.inl (.bool true)], [(decide ((i.h : Int) > 100), true), (decide ((i.m : Int) > 5000), false), (decide ((i.n : Int) > 2000), false)], []) := by kernel_rfl
theorem ip_ff (i : Im) (a : Int) : S2.simF (envPl false false i) 1000 30 [] [false, false, false, true, true, true, false, true, true] 3 [[], [true]] [imX false i, .inl (.int .i64 a)] = some (false, [.inl (.bool true)], [(true, true), (true, true), (false, false), (true, true), (true, true), (true, true), (pre (propB (isIm i (imC i) ∧ smallIm i ∧ isI a ∧ ¬ hasZ 16777216 8 i.m a)), true), (pre (propB (isIm i (imC i) ∧ smallIm i ∧ isI a ∧ ¬ hasZ 16777216 8 i.m a)), true), (pre (propB (isIm i (imC i) ∧ smallIm i ∧ isI a ∧ ¬ hasZ 65536 4 i.n a)), true), (pre (propB (isIm i (imC i) ∧ smallIm i ∧ isI a ∧ ¬ hasZ 65536 4 i.n a)), true), (decide ((i.h : Int) > 100), false), (decide ((i.m : Int) > 5000), false), (decide ((i.n : Int) > 2000), false)], []) := by kernel_rfl
theorem ip_ft (i : Im) (a : Int) : S2.simF (envPl false true i) 1000 30 [] [false, false, false, true, true, true, true, true] 3 [[], [true]] [imX false i, .inl (.int .i64 a)] = some (false, [.inl (.bool true)], [(qZ 16777216 8 a == qZ 16777216 8 a, true), (true, true), (true == decide (qZ 16777216 8 a ≥ 0), true), (true, true), (true, true), (pre (propB (isIm i (imC i) ∧ smallIm i ∧ isI a ∧ hasZ 16777216 8 i.m a)), true), (pre (propB (isIm i (imC i) ∧ smallIm i ∧ isI a ∧ hasZ 16777216 8 i.m a)), true), (pre (propB (isIm i (imC i) ∧ smallIm i ∧ isI a ∧ ¬ hasZ 65536 4 i.n a)), true), (pre (propB (isIm i (imC i) ∧ smallIm i ∧ isI a ∧ ¬ hasZ 65536 4 i.n a)), true), (decide ((i.h : Int) > 100), false), (decide ((i.m : Int) > 5000), false), (decide ((i.n : Int) > 2000), false)], []) := by kernel_rfl
theorem ip_tf (i : Im) (a : Int) : S2.simF (envPl true false i) 1000 30 [] [false, false, false, true, true, true, false, true, true] 3 [[], [true]] [imX false i, .inl (.int .i64 a)] = some (false, [.inl (.bool true)], [(true, true), (true, true), (false, false), (true, true), (true, true), (((decodeZ (i.c (qZ 65536 4 a).toNat)).op == (decodeZ (i.c (qZ 65536 4 a).toNat)).op && ((decodeZ (i.c (qZ 65536 4 a).toNat)).rd == (decodeZ (i.c (qZ 65536 4 a).toNat)).rd && ((decodeZ (i.c (qZ 65536 4 a).toNat)).a == (decodeZ (i.c (qZ 65536 4 a).toNat)).a && ((decodeZ (i.c (qZ 65536 4 a).toNat)).b == (decodeZ (i.c (qZ 65536 4 a).toNat)).b && ((decodeZ (i.c (qZ 65536 4 a).toNat)).imm == (decodeZ (i.c (qZ 65536 4 a).toNat)).imm && ((decodeZ (i.c (qZ 65536 4 a).toNat)).aq == (decodeZ (i.c (qZ 65536 4 a).toNat)).aq && ((decodeZ (i.c (qZ 65536 4 a).toNat)).rl == (decodeZ (i.c (qZ 65536 4 a).toNat)).rl && true))))))), true), (pre (propB (isIm i (imC i) ∧ smallIm i ∧ isI a ∧ ¬ hasZ 16777216 8 i.m a)), true), (pre (propB (isIm i (imC i) ∧ smallIm i ∧ isI a ∧ ¬ hasZ 16777216 8 i.m a)), true), (pre (propB (isIm i (imC i) ∧ smallIm i ∧ isI a ∧ hasZ 65536 4 i.n a ∧ c32 i)), true), (pre (propB (isIm i (imC i) ∧ smallIm i ∧ isI a ∧ hasZ 65536 4 i.n a ∧ c32 i)), true), (decide ((i.h : Int) > 100), false), (decide ((i.m : Int) > 5000), false), (decide ((i.n : Int) > 2000), false)], []) := by kernel_rfl
theorem ip_tt (i : Im) (a : Int) : S2.simF (envPl true true i) 1000 30 [] [false, false, false, true, true, true, true, true] 3 [[], [true]] [imX false i, .inl (.int .i64 a)] = some (false, [.inl (.bool true)], [(qZ 16777216 8 a == qZ 16777216 8 a, true), (true, true), (true == decide (qZ 16777216 8 a ≥ 0), true), (true, true), (((decodeZ (i.c (qZ 65536 4 a).toNat)).op == (decodeZ (i.c (qZ 65536 4 a).toNat)).op && ((decodeZ (i.c (qZ 65536 4 a).toNat)).rd == (decodeZ (i.c (qZ 65536 4 a).toNat)).rd && ((decodeZ (i.c (qZ 65536 4 a).toNat)).a == (decodeZ (i.c (qZ 65536 4 a).toNat)).a && ((decodeZ (i.c (qZ 65536 4 a).toNat)).b == (decodeZ (i.c (qZ 65536 4 a).toNat)).b && ((decodeZ (i.c (qZ 65536 4 a).toNat)).imm == (decodeZ (i.c (qZ 65536 4 a).toNat)).imm && ((decodeZ (i.c (qZ 65536 4 a).toNat)).aq == (decodeZ (i.c (qZ 65536 4 a).toNat)).aq && ((decodeZ (i.c (qZ 65536 4 a).toNat)).rl == (decodeZ (i.c (qZ 65536 4 a).toNat)).rl && true))))))), true), (pre (propB (isIm i (imC i) ∧ smallIm i ∧ isI a ∧ hasZ 16777216 8 i.m a)), true), (pre (propB (isIm i (imC i) ∧ smallIm i ∧ isI a ∧ hasZ 16777216 8 i.m a)), true), (pre (propB (isIm i (imC i) ∧ smallIm i ∧ isI a ∧ hasZ 65536 4 i.n a ∧ c32 i)), true), (pre (propB (isIm i (imC i) ∧ smallIm i ∧ isI a ∧ hasZ 65536 4 i.n a ∧ c32 i)), true), (decide ((i.h : Int) > 100), false), (decide ((i.m : Int) > 5000), false), (decide ((i.n : Int) > 2000), false)], []) := by kernel_rfl
theorem inSelf (x : In) : (x.op == x.op && (x.rd == x.rd && (x.a == x.a && (x.b == x.b && (x.imm == x.imm && (x.aq == x.aq && (x.rl == x.rl && true))))))) = true := by simp
theorem imagePlaces_walk (i : Im) (v : Value) (a : Int) (w : World) (hG : GlobOk decGl w) (hw : wfIm i) (ha : ∀ o, ArgsOk w [imX o i] [v]) (h64w : (Lit.int .i64 a).wf = true) : Ret Tryd.prog 3 #[v, .int .i64 a] (.bool true) w := by
  have h64 : isI a := bounds_i64 h64w
  have F := Tryd.func3
  have hv : ArgsOk w [imX false i, .inl (.int .i64 a)] [v, .int .i64 a] := ⟨(ha false).1, rfl, trivial⟩
  refine LRet.plain ?_
  by_cases l1 : i.n > 2000
  · exact fn_ok (envPl_ok false false i) (ip_large1 i a) (all_cons (ob_yes (by omega)) all_nil) F w [v, .int .i64 a] hG hv fun t ht => by cases ht
  by_cases l2 : i.m > 5000
  · exact fn_ok (envPl_ok false false i) (ip_large2 i a) (all_cons (ob_yes (by omega)) <| all_cons (ob_no (by omega)) all_nil) F w [v, .int .i64 a] hG hv fun t ht => by cases ht
  by_cases l3 : i.h > 100
  · exact fn_ok (envPl_ok false false i) (ip_large3 i a) (all_cons (ob_yes (by omega)) <| all_cons (ob_no (by omega)) <| all_cons (ob_no (by omega)) all_nil) F w [v, .int .i64 a] hG hv fun t ht => by cases ht
  have hs : smallIm i := ⟨by omega, by omega, by omega⟩
  have o1 : decide ((i.n : Int) > 2000) = false := ob_no (by omega)
  have o2 : decide ((i.m : Int) > 5000) = false := ob_no (by omega)
  have o3 : decide ((i.h : Int) > 100) = false := ob_no (by omega)
  by_cases hf : hasZ 65536 4 i.n a
  · by_cases hp : hasZ 16777216 8 i.m a
    · have q0 : decide (qZ 16777216 8 a ≥ 0) = true := ob_yes (by rw [qZ_eq (by decide) (by decide) hp.1 h64]; exact Int.ediv_nonneg (by have := hp.1; omega) (by decide))
      exact fn_ok (envPl_ok true true i) (ip_tt i a) (all_cons (beq_self_eq_true _) <| all_cons rfl <| all_cons (by rw [q0]; rfl) <| all_cons rfl <| all_cons (inSelf _) <| all_cons (propB_ok.mpr ⟨imC_im i, hs, h64, hp⟩) <| all_cons (propB_ok.mpr ⟨imC_im i, hs, h64, hp⟩) <| all_cons (propB_ok.mpr ⟨imC_im i, hs, h64, hf, hw.c⟩) <| all_cons (propB_ok.mpr ⟨imC_im i, hs, h64, hf, hw.c⟩) <| all_cons o3 <| all_cons o2 <| all_cons o1 all_nil) F w [v, .int .i64 a] hG hv fun t ht => by cases ht
    · exact fn_ok (envPl_ok true false i) (ip_tf i a) (all_cons rfl <| all_cons rfl <| all_cons rfl <| all_cons rfl <| all_cons rfl <| all_cons (inSelf _) <| all_cons (propB_ok.mpr ⟨imC_im i, hs, h64, hp⟩) <| all_cons (propB_ok.mpr ⟨imC_im i, hs, h64, hp⟩) <| all_cons (propB_ok.mpr ⟨imC_im i, hs, h64, hf, hw.c⟩) <| all_cons (propB_ok.mpr ⟨imC_im i, hs, h64, hf, hw.c⟩) <| all_cons o3 <| all_cons o2 <| all_cons o1 all_nil) F w [v, .int .i64 a] hG hv fun t ht => by cases ht
  · by_cases hp : hasZ 16777216 8 i.m a
    · have q0 : decide (qZ 16777216 8 a ≥ 0) = true := ob_yes (by rw [qZ_eq (by decide) (by decide) hp.1 h64]; exact Int.ediv_nonneg (by have := hp.1; omega) (by decide))
      exact fn_ok (envPl_ok false true i) (ip_ft i a) (all_cons (beq_self_eq_true _) <| all_cons rfl <| all_cons (by rw [q0]; rfl) <| all_cons rfl <| all_cons rfl <| all_cons (propB_ok.mpr ⟨imC_im i, hs, h64, hp⟩) <| all_cons (propB_ok.mpr ⟨imC_im i, hs, h64, hp⟩) <| all_cons (propB_ok.mpr ⟨imC_im i, hs, h64, hf⟩) <| all_cons (propB_ok.mpr ⟨imC_im i, hs, h64, hf⟩) <| all_cons o3 <| all_cons o2 <| all_cons o1 all_nil) F w [v, .int .i64 a] hG hv fun t ht => by cases ht
    · exact fn_ok (envPl_ok false false i) (ip_ff i a) (all_cons rfl <| all_cons rfl <| all_cons rfl <| all_cons rfl <| all_cons rfl <| all_cons rfl <| all_cons (propB_ok.mpr ⟨imC_im i, hs, h64, hp⟩) <| all_cons (propB_ok.mpr ⟨imC_im i, hs, h64, hp⟩) <| all_cons (propB_ok.mpr ⟨imC_im i, hs, h64, hf⟩) <| all_cons (propB_ok.mpr ⟨imC_im i, hs, h64, hf⟩) <| all_cons o3 <| all_cons o2 <| all_cons o1 all_nil) F w [v, .int .i64 a] hG hv fun t ht => by cases ht

end Go.Proofs.YtimgongaenpgkaaDoor
