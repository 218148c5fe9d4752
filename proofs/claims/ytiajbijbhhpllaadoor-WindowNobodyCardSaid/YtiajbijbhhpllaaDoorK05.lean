/- Part 5 of the proof: Dec, LaidKit, Laid05, Hp14, W14, Mem15, Reg15, Gen16, Win19, Rf14, Bwd19, Rfn19, Reg19, Can19, Exe19, Exa19, Decode, Ref08, Plain02, Same08, Awake08, Open, OpenA, Open08, Place08, Fet19. -/
import Derived.Test.YtiajbijbhhpllaaDoorK04
import Derived.ProofKit
import Derived.LaidMore
import Derived.OpenShut
import Derived.FnData
import Derived.RangeFuncNested
import Derived.Test.YtiajbijbhhpllaaDoorRows
import Derived.Deep.MidRow
import Derived.Deep.WholeRow
import Derived.Deep.RegionHeld
import Derived.Deep.RegionHeld3
import Derived.StillTailTactics
import Derived.RangeFuncBound
import Derived.RangeFuncCalls
import Derived.RangeFuncLeaves
import Derived.Shelf.Abstract
import Derived.Shelf.RegionOpen
import Derived.WalkKit
import Derived.OwnWalkIn
import Derived.TacticsInMore
import Derived.LoopNIn
import Derived.LoopIn
import Derived.Stop.RegionWithIn
import Derived.ChangeOld
import Derived.Below
import Derived.Deep.Strs
set_option linter.unusedVariables false
set_option linter.unusedSimpArgs false
namespace Go.Proofs.YtiajbijbhhpllaaDoor
open Go.RowKit Sim
theorem GlobOk.more {gl gl' : Gl} {w : World} (h : GlobOk gl' w) (hs : ∀ g cs, gl g = some cs → gl' g = some cs) : GlobOk gl w := fun g cs hg => h g cs (hs g cs hg)
theorem TabOk.more {P : Program} {gl gl' : Gl} {c : Tab} (h : TabOk P gl c) (hs : ∀ g cs, gl g = some cs → gl' g = some cs) : TabOk P gl' c := fun f args v hv w hG => h f args v hv w (GlobOk.more hG hs)
def brL : List Int := [5, 6, 0, 0, 7, 8, 9, 10]
def ldL : List Int := [11, 12, 13, 14, 15, 16, 17, 0]
def stL : List Int := [18, 19, 20, 21, 0, 0, 0, 0]
def imL : List Int := [22, 28, 23, 24, 25, 29, 26, 27]
def suL : List Int := [35, 37, 38, 39, 40, 41, 43, 44]
def otL : List Int := [36, 0, 0, 0, 0, 42, 0, 0]
def prL : List Int := [50, 51, 52, 53, 54, 55, 56, 57]
def imwL : List Int := [31, 32, 0, 0, 0, 33, 0, 0]
def suwL : List Int := [45, 47, 0, 0, 0, 48, 0, 0]
def otwL : List Int := [46, 0, 0, 0, 0, 49, 0, 0]
def prwL : List Int := [58, 0, 0, 0, 59, 60, 61, 62]
def tabGl : List (Nat × List Int) := [(10, brL), (0, ldL), (3, stL), (1, imL), (4, suL), (6, otL), (5, prL), (2, imwL), (7, suwL), (9, otwL), (8, prwL)]
def findG : List (Nat × List Int) → Gl
  | [], _ => none
  | (k, l) :: r, g => bif Nat.beq g k then some (l.map fun x => .int .i64 x) else findG r g
def decGl : Gl := fun g => match encGl g with
  | some cs => some cs
  | none => findG tabGl g
theorem dec_enc : ∀ g cs, encGl g = some cs → decGl g = some cs := fun g cs h => by unfold decGl; rw [h]
theorem getZ_ex : ∃ f : Int → Int → Int → Int, ∀ x a n, f x a n = (getF x.toNat a.toNat n.toNat : Nat) := ⟨_, fun _ _ _ => rfl⟩
noncomputable def getZ : Int → Int → Int → Int := Classical.choose getZ_ex
theorem getZ_eq (x a n : Int) : getZ x a n = (getF x.toNat a.toNat n.toNat : Nat) := Classical.choose_spec getZ_ex x a n
def fieldC (x a n : Int) : Bool := w32B x && decide (1 ≤ n ∧ 0 ≤ a ∧ a + n ≤ 32)
noncomputable def decGet : List Value → Option (Value × Bool)
  | [.int .u32 x, .int .i64 a, .int .i64 n] => some (.tuple #[.int .u32 (getZ x a n), .int .i64 0], pre (fieldC x a n))
  | _ => none
noncomputable def pGet : PTab := prowD 90 decGet
theorem pGet_ok {gl : Gl} : PTabOk Tryd.prog gl pGet := .rowD fun args u hd w hG => by
  unfold decGet at hd
  split at hd
  · rename_i x a n
    simp only [Option.some.injEq, Prod.mk.injEq, pre] at hd
    obtain ⟨rfl, hc⟩ := hd
    simp [fieldC, w32B] at hc
    obtain ⟨⟨x0, x1⟩, n0, a0, a1⟩ := hc
    obtain ⟨x, rfl⟩ := Int.eq_ofNat_of_zero_le x0
    obtain ⟨a, rfl⟩ := Int.eq_ofNat_of_zero_le a0
    obtain ⟨n, rfl⟩ := Int.eq_ofNat_of_zero_le (show 0 ≤ n by omega)
    refine (Ret.of_qt (get_yes x a n w (by omega) (by omega) (by omega) (by omega))).of_eq ?_
    rw [getZ_eq, Int.toNat_natCast, Int.toNat_natCast, Int.toNat_natCast]
  · cases hd
theorem get_lit (v a n p q : Int) (hv : w32B v = true) (h : ((2 ^ a.toNat : Nat) : Int) = p ∧ ((2 ^ n.toNat : Nat) : Int) = q) : getZ v a n = v / p % q := by
  obtain ⟨rfl, rfl⟩ := h
  simp [w32B] at hv
  obtain ⟨v, rfl⟩ := Int.eq_ofNat_of_zero_le hv.1
  rw [getZ_eq, Int.toNat_natCast]
  unfold getF
  push_cast
  rfl
def signC32 (x n : Int) : Bool := w32B x && decide (1 ≤ n ∧ n ≤ 32)
noncomputable def decSign : List Value → Option (Value × Bool)
  | [.int .u32 x, .int .i64 n] => some (.tuple #[.int .i64 (signZ x n), .int .i64 0], pre (signC32 x n))
  | _ => none
noncomputable def pSign : PTab := prowD 87 decSign
theorem pSign_ok {gl : Gl} : PTabOk Tryd.prog gl pSign := .rowD fun args u hd w hG => by
  unfold decSign at hd
  split at hd
  · rename_i x n
    simp only [Option.some.injEq, Prod.mk.injEq, pre] at hd
    obtain ⟨rfl, hc⟩ := hd
    simp [signC32, w32B] at hc
    obtain ⟨⟨x0, x1⟩, n0, n1⟩ := hc
    obtain ⟨x, rfl⟩ := Int.eq_ofNat_of_zero_le x0
    obtain ⟨n, rfl⟩ := Int.eq_ofNat_of_zero_le (show 0 ≤ n by omega)
    refine (Ret.of_same (sign_yes x n w (by omega) (by omega))).of_eq ?_
    rw [signZ_eq, Int.toNat_natCast, Int.toNat_natCast]
  · cases hd
theorem field_ret {gl : Gl} (v a n : Int) (hc : fieldC v a n = true) (w : World) (hG : GlobOk gl w) : Ret Tryd.prog 79 #[.int .u32 v, .int .i64 a, .int .i64 n] (.int .u32 (getZ v a n)) w := by
  exact (retP (TabOk.none _ _) pGet_ok (fuel := 1000) O3 [] (v := .int .u32 (getZ v a n)) [(pre (fieldC v a n), true)] (by kernel_rfl) (by simp [pre, hc, hc]) w hG).of_eq (by first | (simp only [pre, pre, hc, hc]; rfl) | simp [pre, pre, hc, hc])
noncomputable def decField : List Value → Option (Value × Bool)
  | [.int .u32 x, .int .i64 a, .int .i64 n] => some (.int .u32 (getZ x a n), pre (fieldC x a n))
  | _ => none
noncomputable def pField : PTab := prowD 79 decField
theorem pField_ok {gl : Gl} : PTabOk Tryd.prog gl pField := .rowD fun args u hd w hG => by
  unfold decField at hd
  split at hd
  · rename_i x a n
    simp only [Option.some.injEq, Prod.mk.injEq, pre] at hd
    obtain ⟨rfl, hc⟩ := hd
    exact field_ret x a n hc w hG
  · cases hd
theorem fieldC_lit {v : Int} (hv : w32B v = true) (a n : Int) : fieldC v a n = decide (1 ≤ n ∧ 0 ≤ a ∧ a + n ≤ 32) := by unfold fieldC; rw [hv]; rfl
noncomputable def immediateZ (v op ar : Int) : Int := bif getZ v 12 3 == 5 then (bif getZ v 30 1 == 1 then ar else op) else op
theorem decImm_ret {gl : Gl} (v op ar : Int) (hv : w32B v = true) (w : World) (hG : GlobOk gl w) : Ret Tryd.prog 80 #[.int .u32 v, .int .i64 op, .int .i64 ar] (.int .i64 (immediateZ v op ar)) w := by
  rcases Bool.eq_false_or_eq_true (getZ v 12 3 == 5) with h0 | h0
  · rcases Bool.eq_false_or_eq_true (getZ v 30 1 == 1) with h1 | h1
    · exact (retP (TabOk.none _ _) pField_ok (fuel := 1000) O3 [true, true] (v := .int .i64 (ar)) [(getZ v 30 1 == 1, true), (pre (fieldC v 30 1), true), (getZ v 12 3 == 5, true), (pre (fieldC v 12 3), true)] (by kernel_rfl) (by simp [pre, fieldC_lit hv, hv, h0, h1]) w hG).of_eq (by first | (simp only [immediateZ, pre, fieldC_lit hv, hv, h0, h1]; rfl) | simp [immediateZ, pre, fieldC_lit hv, hv, h0, h1])
    · exact (retP (TabOk.none _ _) pField_ok (fuel := 1000) O3 [true, false] (v := .int .i64 (op)) [(getZ v 30 1 == 1, false), (pre (fieldC v 30 1), true), (getZ v 12 3 == 5, true), (pre (fieldC v 12 3), true)] (by kernel_rfl) (by simp [pre, fieldC_lit hv, hv, h0, h1]) w hG).of_eq (by first | (simp only [immediateZ, pre, fieldC_lit hv, hv, h0, h1]; rfl) | simp [immediateZ, pre, fieldC_lit hv, hv, h0, h1])
  · exact (retP (TabOk.none _ _) pField_ok (fuel := 1000) O3 [false] (v := .int .i64 (op)) [(getZ v 12 3 == 5, false), (pre (fieldC v 12 3), true)] (by kernel_rfl) (by simp [pre, fieldC_lit hv, hv, h0]) w hG).of_eq (by first | (simp only [immediateZ, pre, fieldC_lit hv, hv, h0]; rfl) | simp [immediateZ, pre, fieldC_lit hv, hv, h0])
noncomputable def decImmediate : List Value → Option (Value × Bool)
  | [.int .u32 v, .int .i64 op, .int .i64 ar] => some (.int .i64 (immediateZ v op ar), pre (w32B v))
  | _ => none
noncomputable def pImmediate : PTab := prowD 80 decImmediate
theorem pImmediate_ok {gl : Gl} : PTabOk Tryd.prog gl pImmediate := .rowD fun args u hd w hG => by
  unfold decImmediate at hd
  split at hd
  · rename_i v op ar
    simp only [Option.some.injEq, Prod.mk.injEq, pre] at hd
    obtain ⟨rfl, hc⟩ := hd
    exact decImm_ret v op ar hc w hG
  · cases hd
noncomputable def byF7Z (v s p o : Int) : Int := bif getZ v 25 7 == 1 then p else bif getZ v 25 7 == 32 then o else s
theorem byF7_ret {gl : Gl} (v s q o : Int) (hv : w32B v = true) (w : World) (hG : GlobOk gl w) : Ret Tryd.prog 82 #[.int .u32 v, .int .i64 s, .int .i64 q, .int .i64 o] (.int .i64 (byF7Z v s q o)) w := by
  rcases Bool.eq_false_or_eq_true (getZ v 25 7 == 1) with h0 | h0
  · exact (retP (TabOk.none _ _) pField_ok (fuel := 1000) [[true], [true], [true], [true]] [true] (v := .int .i64 (q)) [(getZ v 25 7 == 1, true), (pre (fieldC v 25 7), true)] (by kernel_rfl) (by simp [pre, fieldC_lit hv, hv, h0]) w hG).of_eq (by first | (simp only [byF7Z, pre, fieldC_lit hv, hv, h0]; rfl) | simp [byF7Z, pre, fieldC_lit hv, hv, h0])
  · rcases Bool.eq_false_or_eq_true (getZ v 25 7 == 32) with h1 | h1
    · exact (retP (TabOk.none _ _) pField_ok (fuel := 1000) [[true], [true], [true], [true]] [false, true] (v := .int .i64 (o)) [(getZ v 25 7 == 32, true), (getZ v 25 7 == 1, false), (pre (fieldC v 25 7), true)] (by kernel_rfl) (by simp [pre, fieldC_lit hv, hv, h0, h1]) w hG).of_eq (by first | (simp only [byF7Z, pre, fieldC_lit hv, hv, h0, h1]; rfl) | simp [byF7Z, pre, fieldC_lit hv, hv, h0, h1])
    · exact (retP (TabOk.none _ _) pField_ok (fuel := 1000) [[true], [true], [true], [true]] [false, false] (v := .int .i64 (s)) [(getZ v 25 7 == 32, false), (getZ v 25 7 == 1, false), (pre (fieldC v 25 7), true)] (by kernel_rfl) (by simp [pre, fieldC_lit hv, hv, h0, h1]) w hG).of_eq (by first | (simp only [byF7Z, pre, fieldC_lit hv, hv, h0, h1]; rfl) | simp [byF7Z, pre, fieldC_lit hv, hv, h0, h1])
noncomputable def decByF7 : List Value → Option (Value × Bool)
  | [.int .u32 v, .int .i64 s, .int .i64 q, .int .i64 o] => some (.int .i64 (byF7Z v s q o), pre (w32B v))
  | _ => none
noncomputable def pByF7 : PTab := prowD 82 decByF7
theorem pByF7_ok {gl : Gl} : PTabOk Tryd.prog gl pByF7 := .rowD fun args u hd w hG => by
  unfold decByF7 at hd
  split at hd
  · rename_i v s q o
    simp only [Option.some.injEq, Prod.mk.injEq, pre] at hd
    obtain ⟨rfl, hc⟩ := hd
    exact byF7_ret v s q o hc w hG
  · cases hd
def amoWZ (s : Int) : Int := bif s == 0 then 69 else bif s == 1 then 68 else bif s == 2 then 66 else bif s == 3 then 67 else bif s == 4 then 70 else bif s == 8 then 72 else bif s == 12 then 71 else bif s == 16 then 73 else bif s == 20 then 74 else bif s == 24 then 75 else bif s == 28 then 76 else 0
theorem amoW_ret {gl : Gl} (s : Int) (w : World) (hG : GlobOk gl w) : Ret Tryd.prog 91 #[.int .u32 s] (.int .i64 (amoWZ s)) w := by
  rcases Bool.eq_false_or_eq_true (s == 0) with h0 | h0
  · exact (ret (TabOk.none _ _) (fuel := 1000) O1 [true] (v := .int .i64 (69)) [(s == 0, true)] (by kernel_rfl) (by simp [pre, h0]) w hG).of_eq (by first | (simp only [amoWZ, pre, h0]; rfl) | simp [amoWZ, pre, h0])
  · rcases Bool.eq_false_or_eq_true (s == 1) with h1 | h1
    · exact (ret (TabOk.none _ _) (fuel := 1000) O1 [false, true] (v := .int .i64 (68)) [(s == 1, true), (s == 0, false)] (by kernel_rfl) (by simp [pre, h0, h1]) w hG).of_eq (by first | (simp only [amoWZ, pre, h0, h1]; rfl) | simp [amoWZ, pre, h0, h1])
    · rcases Bool.eq_false_or_eq_true (s == 2) with h2 | h2
      · exact (ret (TabOk.none _ _) (fuel := 1000) O1 [false, false, true] (v := .int .i64 (66)) [(s == 2, true), (s == 1, false), (s == 0, false)] (by kernel_rfl) (by simp [pre, h0, h1, h2]) w hG).of_eq (by first | (simp only [amoWZ, pre, h0, h1, h2]; rfl) | simp [amoWZ, pre, h0, h1, h2])
      · rcases Bool.eq_false_or_eq_true (s == 3) with h3 | h3
        · exact (ret (TabOk.none _ _) (fuel := 1000) O1 [false, false, false, true] (v := .int .i64 (67)) [(s == 3, true), (s == 2, false), (s == 1, false), (s == 0, false)] (by kernel_rfl) (by simp [pre, h0, h1, h2, h3]) w hG).of_eq (by first | (simp only [amoWZ, pre, h0, h1, h2, h3]; rfl) | simp [amoWZ, pre, h0, h1, h2, h3])
        · rcases Bool.eq_false_or_eq_true (s == 4) with h4 | h4
          · exact (ret (TabOk.none _ _) (fuel := 1000) O1 [false, false, false, false, true] (v := .int .i64 (70)) [(s == 4, true), (s == 3, false), (s == 2, false), (s == 1, false), (s == 0, false)] (by kernel_rfl) (by simp [pre, h0, h1, h2, h3, h4]) w hG).of_eq (by first | (simp only [amoWZ, pre, h0, h1, h2, h3, h4]; rfl) | simp [amoWZ, pre, h0, h1, h2, h3, h4])
          · rcases Bool.eq_false_or_eq_true (s == 8) with h5 | h5
            · exact (ret (TabOk.none _ _) (fuel := 1000) O1 [false, false, false, false, false, true] (v := .int .i64 (72)) [(s == 8, true), (s == 4, false), (s == 3, false), (s == 2, false), (s == 1, false), (s == 0, false)] (by kernel_rfl) (by simp [pre, h0, h1, h2, h3, h4, h5]) w hG).of_eq (by first | (simp only [amoWZ, pre, h0, h1, h2, h3, h4, h5]; rfl) | simp [amoWZ, pre, h0, h1, h2, h3, h4, h5])
            · rcases Bool.eq_false_or_eq_true (s == 12) with h6 | h6
              · exact (ret (TabOk.none _ _) (fuel := 1000) O1 [false, false, false, false, false, false, true] (v := .int .i64 (71)) [(s == 12, true), (s == 8, false), (s == 4, false), (s == 3, false), (s == 2, false), (s == 1, false), (s == 0, false)] (by kernel_rfl) (by simp [pre, h0, h1, h2, h3, h4, h5, h6]) w hG).of_eq (by first | (simp only [amoWZ, pre, h0, h1, h2, h3, h4, h5, h6]; rfl) | simp [amoWZ, pre, h0, h1, h2, h3, h4, h5, h6])
              · rcases Bool.eq_false_or_eq_true (s == 16) with h7 | h7
                · exact (ret (TabOk.none _ _) (fuel := 1000) O1 [false, false, false, false, false, false, false, true] (v := .int .i64 (73)) [(s == 16, true), (s == 12, false), (s == 8, false), (s == 4, false), (s == 3, false), (s == 2, false), (s == 1, false), (s == 0, false)] (by kernel_rfl) (by simp [pre, h0, h1, h2, h3, h4, h5, h6, h7]) w hG).of_eq (by first | (simp only [amoWZ, pre, h0, h1, h2, h3, h4, h5, h6, h7]; rfl) | simp [amoWZ, pre, h0, h1, h2, h3, h4, h5, h6, h7])
                · rcases Bool.eq_false_or_eq_true (s == 20) with h8 | h8
                  · exact (ret (TabOk.none _ _) (fuel := 1000) O1 [false, false, false, false, false, false, false, false, true] (v := .int .i64 (74)) [(s == 20, true), (s == 16, false), (s == 12, false), (s == 8, false), (s == 4, false), (s == 3, false), (s == 2, false), (s == 1, false), (s == 0, false)] (by kernel_rfl) (by simp [pre, h0, h1, h2, h3, h4, h5, h6, h7, h8]) w hG).of_eq (by first | (simp only [amoWZ, pre, h0, h1, h2, h3, h4, h5, h6, h7, h8]; rfl) | simp [amoWZ, pre, h0, h1, h2, h3, h4, h5, h6, h7, h8])
                  · rcases Bool.eq_false_or_eq_true (s == 24) with h9 | h9
                    · exact (ret (TabOk.none _ _) (fuel := 1000) O1 [false, false, false, false, false, false, false, false, false, true] (v := .int .i64 (75)) [(s == 24, true), (s == 20, false), (s == 16, false), (s == 12, false), (s == 8, false), (s == 4, false), (s == 3, false), (s == 2, false), (s == 1, false), (s == 0, false)] (by kernel_rfl) (by simp [pre, h0, h1, h2, h3, h4, h5, h6, h7, h8, h9]) w hG).of_eq (by first | (simp only [amoWZ, pre, h0, h1, h2, h3, h4, h5, h6, h7, h8, h9]; rfl) | simp [amoWZ, pre, h0, h1, h2, h3, h4, h5, h6, h7, h8, h9])
                    · rcases Bool.eq_false_or_eq_true (s == 28) with h10 | h10
                      · exact (ret (TabOk.none _ _) (fuel := 1000) O1 [false, false, false, false, false, false, false, false, false, false, true] (v := .int .i64 (76)) [(s == 28, true), (s == 24, false), (s == 20, false), (s == 16, false), (s == 12, false), (s == 8, false), (s == 4, false), (s == 3, false), (s == 2, false), (s == 1, false), (s == 0, false)] (by kernel_rfl) (by simp [pre, h0, h1, h2, h3, h4, h5, h6, h7, h8, h9, h10]) w hG).of_eq (by first | (simp only [amoWZ, pre, h0, h1, h2, h3, h4, h5, h6, h7, h8, h9, h10]; rfl) | simp [amoWZ, pre, h0, h1, h2, h3, h4, h5, h6, h7, h8, h9, h10])
                      · exact (ret (TabOk.none _ _) (fuel := 1000) O1 [false, false, false, false, false, false, false, false, false, false, false] (v := .int .i64 (0)) [(s == 28, false), (s == 24, false), (s == 20, false), (s == 16, false), (s == 12, false), (s == 8, false), (s == 4, false), (s == 3, false), (s == 2, false), (s == 1, false), (s == 0, false)] (by kernel_rfl) (by simp [pre, h0, h1, h2, h3, h4, h5, h6, h7, h8, h9, h10]) w hG).of_eq (by first | (simp only [amoWZ, pre, h0, h1, h2, h3, h4, h5, h6, h7, h8, h9, h10]; rfl) | simp [amoWZ, pre, h0, h1, h2, h3, h4, h5, h6, h7, h8, h9, h10])
def decU32 : List Value → Option Int
  | [.int .u32 x] => some x
  | _ => none
theorem decU32_eq : ∀ (l : List Value) (x : Int), decU32 l = some x → l = [.int .u32 x] := fun l x h => by unfold decU32 at h; split at h <;> simp at h; subst h; rfl
def tAmoW : Tab := row 91 decU32 fun s => .int .i64 (amoWZ s)
theorem tAmoW_ok {gl : Gl} : TabOk Tryd.prog gl tAmoW := tabV (enc := fun x => .int .u32 x) decU32_eq fun s w hG => amoW_ret s w hG
noncomputable def amoZ (v : Int) : Int := bif amoWZ (getZ v 27 5) != 0 then (bif getZ v 12 1 == 1 then IntKind.i64.wrap (amoWZ (getZ v 27 5) + 11) else amoWZ (getZ v 27 5)) else amoWZ (getZ v 27 5)
theorem amo_ret {gl : Gl} (v : Int) (hv : w32B v = true) (w : World) (hG : GlobOk gl w) : Ret Tryd.prog 81 #[.int .u32 v] (.int .i64 (amoZ v)) w := by
  rcases Bool.eq_false_or_eq_true (amoWZ (getZ v 27 5) != 0) with h0 | h0
  · rcases Bool.eq_false_or_eq_true (getZ v 12 1 == 1) with h1 | h1
    · exact (retP tAmoW_ok pField_ok (fuel := 1000) O1 [true, true] (v := .int .i64 (IntKind.i64.wrap (amoWZ (getZ v 27 5) + 11))) [(getZ v 12 1 == 1, true), (pre (fieldC v 12 1), true), (amoWZ (getZ v 27 5) != 0, true), (pre (fieldC v 27 5), true)] (by kernel_rfl) (by simp [pre, fieldC_lit hv, hv, h0, h1]) w hG).of_eq (by first | (simp only [amoZ, pre, fieldC_lit hv, hv, h0, h1]; rfl) | simp [amoZ, pre, fieldC_lit hv, hv, h0, h1])
    · exact (retP tAmoW_ok pField_ok (fuel := 1000) O1 [true, false] (v := .int .i64 (amoWZ (getZ v 27 5))) [(getZ v 12 1 == 1, false), (pre (fieldC v 12 1), true), (amoWZ (getZ v 27 5) != 0, true), (pre (fieldC v 27 5), true)] (by kernel_rfl) (by simp [pre, fieldC_lit hv, hv, h0, h1]) w hG).of_eq (by first | (simp only [amoZ, pre, fieldC_lit hv, hv, h0, h1]; rfl) | simp [amoZ, pre, fieldC_lit hv, hv, h0, h1])
  · exact (retP tAmoW_ok pField_ok (fuel := 1000) O1 [false] (v := .int .i64 (amoWZ (getZ v 27 5))) [(amoWZ (getZ v 27 5) != 0, false), (pre (fieldC v 27 5), true)] (by kernel_rfl) (by simp [pre, fieldC_lit hv, hv, h0]) w hG).of_eq (by first | (simp only [amoZ, pre, fieldC_lit hv, hv, h0]; rfl) | simp [amoZ, pre, fieldC_lit hv, hv, h0])
noncomputable def decAmo : List Value → Option (Value × Bool)
  | [.int .u32 v] => some (.int .i64 (amoZ v), pre (w32B v))
  | _ => none
noncomputable def pAmo : PTab := prowD 81 decAmo
theorem pAmo_ok {gl : Gl} : PTabOk Tryd.prog gl pAmo := .rowD fun args u hd w hG => by
  unfold decAmo at hd
  split at hd
  · rename_i v
    simp only [Option.some.injEq, Prod.mk.injEq, pre] at hd
    obtain ⟨rfl, hc⟩ := hd
    exact amo_ret v hc w hG
  · cases hd
noncomputable def systemZ (v : Int) : Int := bif getZ v 20 1 == 1 then 65 else 64
theorem system_ret {gl : Gl} (v : Int) (hv : w32B v = true) (w : World) (hG : GlobOk gl w) : Ret Tryd.prog 83 #[.int .u32 v] (.int .i64 (systemZ v)) w := by
  rcases Bool.eq_false_or_eq_true (getZ v 20 1 == 1) with h0 | h0
  · exact (retP (TabOk.none _ _) pField_ok (fuel := 1000) O1 [true] (v := .int .i64 (65)) [(getZ v 20 1 == 1, true), (pre (fieldC v 20 1), true)] (by kernel_rfl) (by simp [pre, fieldC_lit hv, hv, h0]) w hG).of_eq (by first | (simp only [systemZ, pre, fieldC_lit hv, hv, h0]; rfl) | simp [systemZ, pre, fieldC_lit hv, hv, h0])
  · exact (retP (TabOk.none _ _) pField_ok (fuel := 1000) O1 [false] (v := .int .i64 (64)) [(getZ v 20 1 == 1, false), (pre (fieldC v 20 1), true)] (by kernel_rfl) (by simp [pre, fieldC_lit hv, hv, h0]) w hG).of_eq (by first | (simp only [systemZ, pre, fieldC_lit hv, hv, h0]; rfl) | simp [systemZ, pre, fieldC_lit hv, hv, h0])
noncomputable def decSystem : List Value → Option (Value × Bool)
  | [.int .u32 v] => some (.int .i64 (systemZ v), pre (w32B v))
  | _ => none
noncomputable def pSystem : PTab := prowD 83 decSystem
theorem pSystem_ok {gl : Gl} : PTabOk Tryd.prog gl pSystem := .rowD fun args u hd w hG => by
  unfold decSystem at hd
  split at hd
  · rename_i v
    simp only [Option.some.injEq, Prod.mk.injEq, pre] at hd
    obtain ⟨rfl, hc⟩ := hd
    exact system_ret v hc w hG
  · cases hd
noncomputable def decField3 (k : Int) : List Value → Option (Value × Bool)
  | [.int .u32 x, .int .i64 a, .int .i64 n] => bif a == 12 && n == 3 then some (.int .u32 k, pre (fieldC x 12 3 && getZ x 12 3 == k)) else some (.int .u32 (getZ x a n), pre (fieldC x a n))
  | _ => none
noncomputable def pField3 (k : Int) : PTab := prowD 79 (decField3 k)
theorem pField3_ok {gl : Gl} (k : Int) : PTabOk Tryd.prog gl (pField3 k) := .rowD fun args u hd w hG => by
  unfold decField3 at hd
  split at hd
  · rename_i x a n
    cases hb : (a == 12 && n == 3)
    · rw [hb] at hd
      simp only [cond_false, Option.some.injEq, Prod.mk.injEq, pre] at hd
      obtain ⟨rfl, hc⟩ := hd
      exact field_ret x a n hc w hG
    · rw [hb] at hd
      simp only [cond_true, Option.some.injEq, Prod.mk.injEq, pre, Bool.and_eq_true, beq_iff_eq] at hd
      obtain ⟨rfl, hc, hk⟩ := hd
      simp only [Bool.and_eq_true, beq_iff_eq] at hb
      obtain ⟨rfl, rfl⟩ := hb
      rw [← hk]
      exact field_ret x 12 3 hc w hG
  · cases hd
noncomputable def pOperC (k : Int) : PTab := orP (pField3 k) <| orP pImmediate <| orP pByF7 <| orP pAmo pSystem
theorem pOperC_ok {gl : Gl} (k : Int) : PTabOk Tryd.prog gl (pOperC k) := (pField3_ok k).or <| pImmediate_ok.or <| pByF7_ok.or <| pAmo_ok.or pSystem_ok
noncomputable def operZ (k v : Int) : Int :=
  bif getZ v 0 7 == 3 then atZ ldL 0 k else bif getZ v 0 7 == 15 then 63 else bif getZ v 0 7 == 19 then immediateZ v (atZ imL 0 k) 30 else bif getZ v 0 7 == 23 then 2
  else bif getZ v 0 7 == 27 then immediateZ v (atZ imwL 0 k) 34 else bif getZ v 0 7 == 35 then atZ stL 0 k else bif getZ v 0 7 == 47 then amoZ v
  else bif getZ v 0 7 == 51 then byF7Z v (atZ suL 0 k) (atZ prL 0 k) (atZ otL 0 k) else bif getZ v 0 7 == 55 then 1
  else bif getZ v 0 7 == 59 then byF7Z v (atZ suwL 0 k) (atZ prwL 0 k) (atZ otwL 0 k) else bif getZ v 0 7 == 99 then atZ brL 0 k
  else bif getZ v 0 7 == 103 then 4 else bif getZ v 0 7 == 111 then 3 else bif getZ v 0 7 == 115 then systemZ v else 0
theorem operation_0 (v : Int) (hv : w32B v = true) (hf3 : getZ v 12 3 = 0) (w : World) (hG : GlobOk decGl w) : Ret Tryd.prog 62 #[.int .u32 v] (.int .i64 (operZ 0 v)) w := by
  rcases Bool.eq_false_or_eq_true (getZ v 0 7 == 3) with h0 | h0
  · exact (retP (TabOk.none _ _) (pOperC_ok 0) (fuel := 1000) O1 [true] (v := .int .i64 (11)) [(getZ v 0 7 == 3, true), (pre (fieldC v 0 7), true), (pre (fieldC v 12 3 && getZ v 12 3 == 0), true)] (by kernel_rfl) (by simp [pre, fieldC_lit hv, hf3, hv, hv, h0]) w hG).of_eq (by first | (simp only [operZ, pre, fieldC_lit hv, hf3, hv, hv, h0]; rfl) | simp [operZ, pre, fieldC_lit hv, hf3, hv, hv, h0])
  · rcases Bool.eq_false_or_eq_true (getZ v 0 7 == 15) with h1 | h1
    · exact (retP (TabOk.none _ _) (pOperC_ok 0) (fuel := 1000) O1 [false, true] (v := .int .i64 (63)) [(getZ v 0 7 == 15, true), (getZ v 0 7 == 3, false), (pre (fieldC v 0 7), true), (pre (fieldC v 12 3 && getZ v 12 3 == 0), true)] (by kernel_rfl) (by simp [pre, fieldC_lit hv, hf3, hv, hv, h0, h1]) w hG).of_eq (by first | (simp only [operZ, pre, fieldC_lit hv, hf3, hv, hv, h0, h1]; rfl) | simp [operZ, pre, fieldC_lit hv, hf3, hv, hv, h0, h1])
    · rcases Bool.eq_false_or_eq_true (getZ v 0 7 == 19) with h2 | h2
      · exact (retP (TabOk.none _ _) (pOperC_ok 0) (fuel := 1000) O1 [false, false, true] (v := .int .i64 (immediateZ v 22 30)) [(pre (w32B v), true), (getZ v 0 7 == 19, true), (getZ v 0 7 == 15, false), (getZ v 0 7 == 3, false), (pre (fieldC v 0 7), true), (pre (fieldC v 12 3 && getZ v 12 3 == 0), true)] (by kernel_rfl) (by simp [pre, fieldC_lit hv, hf3, hv, hv, h0, h1, h2]) w hG).of_eq (by first | (simp only [operZ, pre, fieldC_lit hv, hf3, hv, hv, h0, h1, h2]; rfl) | simp [operZ, pre, fieldC_lit hv, hf3, hv, hv, h0, h1, h2])
      · rcases Bool.eq_false_or_eq_true (getZ v 0 7 == 23) with h3 | h3
        · exact (retP (TabOk.none _ _) (pOperC_ok 0) (fuel := 1000) O1 [false, false, false, true] (v := .int .i64 (2)) [(getZ v 0 7 == 23, true), (getZ v 0 7 == 19, false), (getZ v 0 7 == 15, false), (getZ v 0 7 == 3, false), (pre (fieldC v 0 7), true), (pre (fieldC v 12 3 && getZ v 12 3 == 0), true)] (by kernel_rfl) (by simp [pre, fieldC_lit hv, hf3, hv, hv, h0, h1, h2, h3]) w hG).of_eq (by first | (simp only [operZ, pre, fieldC_lit hv, hf3, hv, hv, h0, h1, h2, h3]; rfl) | simp [operZ, pre, fieldC_lit hv, hf3, hv, hv, h0, h1, h2, h3])
        · rcases Bool.eq_false_or_eq_true (getZ v 0 7 == 27) with h4 | h4
          · exact (retP (TabOk.none _ _) (pOperC_ok 0) (fuel := 1000) O1 [false, false, false, false, true] (v := .int .i64 (immediateZ v 31 34)) [(pre (w32B v), true), (getZ v 0 7 == 27, true), (getZ v 0 7 == 23, false), (getZ v 0 7 == 19, false), (getZ v 0 7 == 15, false), (getZ v 0 7 == 3, false), (pre (fieldC v 0 7), true), (pre (fieldC v 12 3 && getZ v 12 3 == 0), true)] (by kernel_rfl) (by simp [pre, fieldC_lit hv, hf3, hv, hv, h0, h1, h2, h3, h4]) w hG).of_eq (by first | (simp only [operZ, pre, fieldC_lit hv, hf3, hv, hv, h0, h1, h2, h3, h4]; rfl) | simp [operZ, pre, fieldC_lit hv, hf3, hv, hv, h0, h1, h2, h3, h4])
          · rcases Bool.eq_false_or_eq_true (getZ v 0 7 == 35) with h5 | h5
            · exact (retP (TabOk.none _ _) (pOperC_ok 0) (fuel := 1000) O1 [false, false, false, false, false, true] (v := .int .i64 (18)) [(getZ v 0 7 == 35, true), (getZ v 0 7 == 27, false), (getZ v 0 7 == 23, false), (getZ v 0 7 == 19, false), (getZ v 0 7 == 15, false), (getZ v 0 7 == 3, false), (pre (fieldC v 0 7), true), (pre (fieldC v 12 3 && getZ v 12 3 == 0), true)] (by kernel_rfl) (by simp [pre, fieldC_lit hv, hf3, hv, hv, h0, h1, h2, h3, h4, h5]) w hG).of_eq (by first | (simp only [operZ, pre, fieldC_lit hv, hf3, hv, hv, h0, h1, h2, h3, h4, h5]; rfl) | simp [operZ, pre, fieldC_lit hv, hf3, hv, hv, h0, h1, h2, h3, h4, h5])
            · rcases Bool.eq_false_or_eq_true (getZ v 0 7 == 47) with h6 | h6
              · exact (retP (TabOk.none _ _) (pOperC_ok 0) (fuel := 1000) O1 [false, false, false, false, false, false, true] (v := .int .i64 (amoZ v)) [(pre (w32B v), true), (getZ v 0 7 == 47, true), (getZ v 0 7 == 35, false), (getZ v 0 7 == 27, false), (getZ v 0 7 == 23, false), (getZ v 0 7 == 19, false), (getZ v 0 7 == 15, false), (getZ v 0 7 == 3, false), (pre (fieldC v 0 7), true), (pre (fieldC v 12 3 && getZ v 12 3 == 0), true)] (by kernel_rfl) (by simp [pre, fieldC_lit hv, hf3, hv, hv, h0, h1, h2, h3, h4, h5, h6]) w hG).of_eq (by first | (simp only [operZ, pre, fieldC_lit hv, hf3, hv, hv, h0, h1, h2, h3, h4, h5, h6]; rfl) | simp [operZ, pre, fieldC_lit hv, hf3, hv, hv, h0, h1, h2, h3, h4, h5, h6])
              · rcases Bool.eq_false_or_eq_true (getZ v 0 7 == 51) with h7 | h7
                · exact (retP (TabOk.none _ _) (pOperC_ok 0) (fuel := 1000) O1 [false, false, false, false, false, false, false, true] (v := .int .i64 (byF7Z v 35 50 36)) [(pre (w32B v), true), (getZ v 0 7 == 51, true), (getZ v 0 7 == 47, false), (getZ v 0 7 == 35, false), (getZ v 0 7 == 27, false), (getZ v 0 7 == 23, false), (getZ v 0 7 == 19, false), (getZ v 0 7 == 15, false), (getZ v 0 7 == 3, false), (pre (fieldC v 0 7), true), (pre (fieldC v 12 3 && getZ v 12 3 == 0), true)] (by kernel_rfl) (by simp [pre, fieldC_lit hv, hf3, hv, hv, h0, h1, h2, h3, h4, h5, h6, h7]) w hG).of_eq (by first | (simp only [operZ, pre, fieldC_lit hv, hf3, hv, hv, h0, h1, h2, h3, h4, h5, h6, h7]; rfl) | simp [operZ, pre, fieldC_lit hv, hf3, hv, hv, h0, h1, h2, h3, h4, h5, h6, h7])
                · rcases Bool.eq_false_or_eq_true (getZ v 0 7 == 55) with h8 | h8
                  · exact (retP (TabOk.none _ _) (pOperC_ok 0) (fuel := 1000) O1 [false, false, false, false, false, false, false, false, true] (v := .int .i64 (1)) [(getZ v 0 7 == 55, true), (getZ v 0 7 == 51, false), (getZ v 0 7 == 47, false), (getZ v 0 7 == 35, false), (getZ v 0 7 == 27, false), (getZ v 0 7 == 23, false), (getZ v 0 7 == 19, false), (getZ v 0 7 == 15, false), (getZ v 0 7 == 3, false), (pre (fieldC v 0 7), true), (pre (fieldC v 12 3 && getZ v 12 3 == 0), true)] (by kernel_rfl) (by simp [pre, fieldC_lit hv, hf3, hv, hv, h0, h1, h2, h3, h4, h5, h6, h7, h8]) w hG).of_eq (by first | (simp only [operZ, pre, fieldC_lit hv, hf3, hv, hv, h0, h1, h2, h3, h4, h5, h6, h7, h8]; rfl) | simp [operZ, pre, fieldC_lit hv, hf3, hv, hv, h0, h1, h2, h3, h4, h5, h6, h7, h8])
                  · rcases Bool.eq_false_or_eq_true (getZ v 0 7 == 59) with h9 | h9
                    · exact (retP (TabOk.none _ _) (pOperC_ok 0) (fuel := 1000) O1 [false, false, false, false, false, false, false, false, false, true] (v := .int .i64 (byF7Z v 45 58 46)) [(pre (w32B v), true), (getZ v 0 7 == 59, true), (getZ v 0 7 == 55, false), (getZ v 0 7 == 51, false), (getZ v 0 7 == 47, false), (getZ v 0 7 == 35, false), (getZ v 0 7 == 27, false), (getZ v 0 7 == 23, false), (getZ v 0 7 == 19, false), (getZ v 0 7 == 15, false), (getZ v 0 7 == 3, false), (pre (fieldC v 0 7), true), (pre (fieldC v 12 3 && getZ v 12 3 == 0), true)] (by kernel_rfl) (by simp [pre, fieldC_lit hv, hf3, hv, hv, h0, h1, h2, h3, h4, h5, h6, h7, h8, h9]) w hG).of_eq (by first | (simp only [operZ, pre, fieldC_lit hv, hf3, hv, hv, h0, h1, h2, h3, h4, h5, h6, h7, h8, h9]; rfl) | simp [operZ, pre, fieldC_lit hv, hf3, hv, hv, h0, h1, h2, h3, h4, h5, h6, h7, h8, h9])
                    · rcases Bool.eq_false_or_eq_true (getZ v 0 7 == 99) with h10 | h10
                      · exact (retP (TabOk.none _ _) (pOperC_ok 0) (fuel := 1000) O1 [false, false, false, false, false, false, false, false, false, false, true] (v := .int .i64 (5)) [(getZ v 0 7 == 99, true), (getZ v 0 7 == 59, false), (getZ v 0 7 == 55, false), (getZ v 0 7 == 51, false), (getZ v 0 7 == 47, false), (getZ v 0 7 == 35, false), (getZ v 0 7 == 27, false), (getZ v 0 7 == 23, false), (getZ v 0 7 == 19, false), (getZ v 0 7 == 15, false), (getZ v 0 7 == 3, false), (pre (fieldC v 0 7), true), (pre (fieldC v 12 3 && getZ v 12 3 == 0), true)] (by kernel_rfl) (by simp [pre, fieldC_lit hv, hf3, hv, hv, h0, h1, h2, h3, h4, h5, h6, h7, h8, h9, h10]) w hG).of_eq (by first | (simp only [operZ, pre, fieldC_lit hv, hf3, hv, hv, h0, h1, h2, h3, h4, h5, h6, h7, h8, h9, h10]; rfl) | simp [operZ, pre, fieldC_lit hv, hf3, hv, hv, h0, h1, h2, h3, h4, h5, h6, h7, h8, h9, h10])
                      · rcases Bool.eq_false_or_eq_true (getZ v 0 7 == 103) with h11 | h11
                        · exact (retP (TabOk.none _ _) (pOperC_ok 0) (fuel := 1000) O1 [false, false, false, false, false, false, false, false, false, false, false, true] (v := .int .i64 (4)) [(getZ v 0 7 == 103, true), (getZ v 0 7 == 99, false), (getZ v 0 7 == 59, false), (getZ v 0 7 == 55, false), (getZ v 0 7 == 51, false), (getZ v 0 7 == 47, false), (getZ v 0 7 == 35, false), (getZ v 0 7 == 27, false), (getZ v 0 7 == 23, false), (getZ v 0 7 == 19, false), (getZ v 0 7 == 15, false), (getZ v 0 7 == 3, false), (pre (fieldC v 0 7), true), (pre (fieldC v 12 3 && getZ v 12 3 == 0), true)] (by kernel_rfl) (by simp [pre, fieldC_lit hv, hf3, hv, hv, h0, h1, h2, h3, h4, h5, h6, h7, h8, h9, h10, h11]) w hG).of_eq (by first | (simp only [operZ, pre, fieldC_lit hv, hf3, hv, hv, h0, h1, h2, h3, h4, h5, h6, h7, h8, h9, h10, h11]; rfl) | simp [operZ, pre, fieldC_lit hv, hf3, hv, hv, h0, h1, h2, h3, h4, h5, h6, h7, h8, h9, h10, h11])
                        · rcases Bool.eq_false_or_eq_true (getZ v 0 7 == 111) with h12 | h12
                          · exact (retP (TabOk.none _ _) (pOperC_ok 0) (fuel := 1000) O1 [false, false, false, false, false, false, false, false, false, false, false, false, true] (v := .int .i64 (3)) [(getZ v 0 7 == 111, true), (getZ v 0 7 == 103, false), (getZ v 0 7 == 99, false), (getZ v 0 7 == 59, false), (getZ v 0 7 == 55, false), (getZ v 0 7 == 51, false), (getZ v 0 7 == 47, false), (getZ v 0 7 == 35, false), (getZ v 0 7 == 27, false), (getZ v 0 7 == 23, false), (getZ v 0 7 == 19, false), (getZ v 0 7 == 15, false), (getZ v 0 7 == 3, false), (pre (fieldC v 0 7), true), (pre (fieldC v 12 3 && getZ v 12 3 == 0), true)] (by kernel_rfl) (by simp [pre, fieldC_lit hv, hf3, hv, hv, h0, h1, h2, h3, h4, h5, h6, h7, h8, h9, h10, h11, h12]) w hG).of_eq (by first | (simp only [operZ, pre, fieldC_lit hv, hf3, hv, hv, h0, h1, h2, h3, h4, h5, h6, h7, h8, h9, h10, h11, h12]; rfl) | simp [operZ, pre, fieldC_lit hv, hf3, hv, hv, h0, h1, h2, h3, h4, h5, h6, h7, h8, h9, h10, h11, h12])
                          · rcases Bool.eq_false_or_eq_true (getZ v 0 7 == 115) with h13 | h13
                            · exact (retP (TabOk.none _ _) (pOperC_ok 0) (fuel := 1000) O1 [false, false, false, false, false, false, false, false, false, false, false, false, false, true] (v := .int .i64 (systemZ v)) [(pre (w32B v), true), (getZ v 0 7 == 115, true), (getZ v 0 7 == 111, false), (getZ v 0 7 == 103, false), (getZ v 0 7 == 99, false), (getZ v 0 7 == 59, false), (getZ v 0 7 == 55, false), (getZ v 0 7 == 51, false), (getZ v 0 7 == 47, false), (getZ v 0 7 == 35, false), (getZ v 0 7 == 27, false), (getZ v 0 7 == 23, false), (getZ v 0 7 == 19, false), (getZ v 0 7 == 15, false), (getZ v 0 7 == 3, false), (pre (fieldC v 0 7), true), (pre (fieldC v 12 3 && getZ v 12 3 == 0), true)] (by kernel_rfl) (by simp [pre, fieldC_lit hv, hf3, hv, hv, h0, h1, h2, h3, h4, h5, h6, h7, h8, h9, h10, h11, h12, h13]) w hG).of_eq (by first | (simp only [operZ, pre, fieldC_lit hv, hf3, hv, hv, h0, h1, h2, h3, h4, h5, h6, h7, h8, h9, h10, h11, h12, h13]; rfl) | simp [operZ, pre, fieldC_lit hv, hf3, hv, hv, h0, h1, h2, h3, h4, h5, h6, h7, h8, h9, h10, h11, h12, h13])
                            · exact (retP (TabOk.none _ _) (pOperC_ok 0) (fuel := 1000) O1 [false, false, false, false, false, false, false, false, false, false, false, false, false, false] (v := .int .i64 (0)) [(getZ v 0 7 == 115, false), (getZ v 0 7 == 111, false), (getZ v 0 7 == 103, false), (getZ v 0 7 == 99, false), (getZ v 0 7 == 59, false), (getZ v 0 7 == 55, false), (getZ v 0 7 == 51, false), (getZ v 0 7 == 47, false), (getZ v 0 7 == 35, false), (getZ v 0 7 == 27, false), (getZ v 0 7 == 23, false), (getZ v 0 7 == 19, false), (getZ v 0 7 == 15, false), (getZ v 0 7 == 3, false), (pre (fieldC v 0 7), true), (pre (fieldC v 12 3 && getZ v 12 3 == 0), true)] (by kernel_rfl) (by simp [pre, fieldC_lit hv, hf3, hv, hv, h0, h1, h2, h3, h4, h5, h6, h7, h8, h9, h10, h11, h12, h13]) w hG).of_eq (by first | (simp only [operZ, pre, fieldC_lit hv, hf3, hv, hv, h0, h1, h2, h3, h4, h5, h6, h7, h8, h9, h10, h11, h12, h13]; rfl) | simp [operZ, pre, fieldC_lit hv, hf3, hv, hv, h0, h1, h2, h3, h4, h5, h6, h7, h8, h9, h10, h11, h12, h13])
theorem operation_1 (v : Int) (hv : w32B v = true) (hf3 : getZ v 12 3 = 1) (w : World) (hG : GlobOk decGl w) : Ret Tryd.prog 62 #[.int .u32 v] (.int .i64 (operZ 1 v)) w := by
  rcases Bool.eq_false_or_eq_true (getZ v 0 7 == 3) with h0 | h0
  · exact (retP (TabOk.none _ _) (pOperC_ok 1) (fuel := 1000) O1 [true] (v := .int .i64 (12)) [(getZ v 0 7 == 3, true), (pre (fieldC v 0 7), true), (pre (fieldC v 12 3 && getZ v 12 3 == 1), true)] (by kernel_rfl) (by simp [pre, fieldC_lit hv, hf3, hv, hv, h0]) w hG).of_eq (by first | (simp only [operZ, pre, fieldC_lit hv, hf3, hv, hv, h0]; rfl) | simp [operZ, pre, fieldC_lit hv, hf3, hv, hv, h0])
  · rcases Bool.eq_false_or_eq_true (getZ v 0 7 == 15) with h1 | h1
    · exact (retP (TabOk.none _ _) (pOperC_ok 1) (fuel := 1000) O1 [false, true] (v := .int .i64 (63)) [(getZ v 0 7 == 15, true), (getZ v 0 7 == 3, false), (pre (fieldC v 0 7), true), (pre (fieldC v 12 3 && getZ v 12 3 == 1), true)] (by kernel_rfl) (by simp [pre, fieldC_lit hv, hf3, hv, hv, h0, h1]) w hG).of_eq (by first | (simp only [operZ, pre, fieldC_lit hv, hf3, hv, hv, h0, h1]; rfl) | simp [operZ, pre, fieldC_lit hv, hf3, hv, hv, h0, h1])
    · rcases Bool.eq_false_or_eq_true (getZ v 0 7 == 19) with h2 | h2
      · exact (retP (TabOk.none _ _) (pOperC_ok 1) (fuel := 1000) O1 [false, false, true] (v := .int .i64 (immediateZ v 28 30)) [(pre (w32B v), true), (getZ v 0 7 == 19, true), (getZ v 0 7 == 15, false), (getZ v 0 7 == 3, false), (pre (fieldC v 0 7), true), (pre (fieldC v 12 3 && getZ v 12 3 == 1), true)] (by kernel_rfl) (by simp [pre, fieldC_lit hv, hf3, hv, hv, h0, h1, h2]) w hG).of_eq (by first | (simp only [operZ, pre, fieldC_lit hv, hf3, hv, hv, h0, h1, h2]; rfl) | simp [operZ, pre, fieldC_lit hv, hf3, hv, hv, h0, h1, h2])
      · rcases Bool.eq_false_or_eq_true (getZ v 0 7 == 23) with h3 | h3
        · exact (retP (TabOk.none _ _) (pOperC_ok 1) (fuel := 1000) O1 [false, false, false, true] (v := .int .i64 (2)) [(getZ v 0 7 == 23, true), (getZ v 0 7 == 19, false), (getZ v 0 7 == 15, false), (getZ v 0 7 == 3, false), (pre (fieldC v 0 7), true), (pre (fieldC v 12 3 && getZ v 12 3 == 1), true)] (by kernel_rfl) (by simp [pre, fieldC_lit hv, hf3, hv, hv, h0, h1, h2, h3]) w hG).of_eq (by first | (simp only [operZ, pre, fieldC_lit hv, hf3, hv, hv, h0, h1, h2, h3]; rfl) | simp [operZ, pre, fieldC_lit hv, hf3, hv, hv, h0, h1, h2, h3])
        · rcases Bool.eq_false_or_eq_true (getZ v 0 7 == 27) with h4 | h4
          · exact (retP (TabOk.none _ _) (pOperC_ok 1) (fuel := 1000) O1 [false, false, false, false, true] (v := .int .i64 (immediateZ v 32 34)) [(pre (w32B v), true), (getZ v 0 7 == 27, true), (getZ v 0 7 == 23, false), (getZ v 0 7 == 19, false), (getZ v 0 7 == 15, false), (getZ v 0 7 == 3, false), (pre (fieldC v 0 7), true), (pre (fieldC v 12 3 && getZ v 12 3 == 1), true)] (by kernel_rfl) (by simp [pre, fieldC_lit hv, hf3, hv, hv, h0, h1, h2, h3, h4]) w hG).of_eq (by first | (simp only [operZ, pre, fieldC_lit hv, hf3, hv, hv, h0, h1, h2, h3, h4]; rfl) | simp [operZ, pre, fieldC_lit hv, hf3, hv, hv, h0, h1, h2, h3, h4])
          · rcases Bool.eq_false_or_eq_true (getZ v 0 7 == 35) with h5 | h5
            · exact (retP (TabOk.none _ _) (pOperC_ok 1) (fuel := 1000) O1 [false, false, false, false, false, true] (v := .int .i64 (19)) [(getZ v 0 7 == 35, true), (getZ v 0 7 == 27, false), (getZ v 0 7 == 23, false), (getZ v 0 7 == 19, false), (getZ v 0 7 == 15, false), (getZ v 0 7 == 3, false), (pre (fieldC v 0 7), true), (pre (fieldC v 12 3 && getZ v 12 3 == 1), true)] (by kernel_rfl) (by simp [pre, fieldC_lit hv, hf3, hv, hv, h0, h1, h2, h3, h4, h5]) w hG).of_eq (by first | (simp only [operZ, pre, fieldC_lit hv, hf3, hv, hv, h0, h1, h2, h3, h4, h5]; rfl) | simp [operZ, pre, fieldC_lit hv, hf3, hv, hv, h0, h1, h2, h3, h4, h5])
            · rcases Bool.eq_false_or_eq_true (getZ v 0 7 == 47) with h6 | h6
              · exact (retP (TabOk.none _ _) (pOperC_ok 1) (fuel := 1000) O1 [false, false, false, false, false, false, true] (v := .int .i64 (amoZ v)) [(pre (w32B v), true), (getZ v 0 7 == 47, true), (getZ v 0 7 == 35, false), (getZ v 0 7 == 27, false), (getZ v 0 7 == 23, false), (getZ v 0 7 == 19, false), (getZ v 0 7 == 15, false), (getZ v 0 7 == 3, false), (pre (fieldC v 0 7), true), (pre (fieldC v 12 3 && getZ v 12 3 == 1), true)] (by kernel_rfl) (by simp [pre, fieldC_lit hv, hf3, hv, hv, h0, h1, h2, h3, h4, h5, h6]) w hG).of_eq (by first | (simp only [operZ, pre, fieldC_lit hv, hf3, hv, hv, h0, h1, h2, h3, h4, h5, h6]; rfl) | simp [operZ, pre, fieldC_lit hv, hf3, hv, hv, h0, h1, h2, h3, h4, h5, h6])
              · rcases Bool.eq_false_or_eq_true (getZ v 0 7 == 51) with h7 | h7
                · exact (retP (TabOk.none _ _) (pOperC_ok 1) (fuel := 1000) O1 [false, false, false, false, false, false, false, true] (v := .int .i64 (byF7Z v 37 51 0)) [(pre (w32B v), true), (getZ v 0 7 == 51, true), (getZ v 0 7 == 47, false), (getZ v 0 7 == 35, false), (getZ v 0 7 == 27, false), (getZ v 0 7 == 23, false), (getZ v 0 7 == 19, false), (getZ v 0 7 == 15, false), (getZ v 0 7 == 3, false), (pre (fieldC v 0 7), true), (pre (fieldC v 12 3 && getZ v 12 3 == 1), true)] (by kernel_rfl) (by simp [pre, fieldC_lit hv, hf3, hv, hv, h0, h1, h2, h3, h4, h5, h6, h7]) w hG).of_eq (by first | (simp only [operZ, pre, fieldC_lit hv, hf3, hv, hv, h0, h1, h2, h3, h4, h5, h6, h7]; rfl) | simp [operZ, pre, fieldC_lit hv, hf3, hv, hv, h0, h1, h2, h3, h4, h5, h6, h7])
                · rcases Bool.eq_false_or_eq_true (getZ v 0 7 == 55) with h8 | h8
                  · exact (retP (TabOk.none _ _) (pOperC_ok 1) (fuel := 1000) O1 [false, false, false, false, false, false, false, false, true] (v := .int .i64 (1)) [(getZ v 0 7 == 55, true), (getZ v 0 7 == 51, false), (getZ v 0 7 == 47, false), (getZ v 0 7 == 35, false), (getZ v 0 7 == 27, false), (getZ v 0 7 == 23, false), (getZ v 0 7 == 19, false), (getZ v 0 7 == 15, false), (getZ v 0 7 == 3, false), (pre (fieldC v 0 7), true), (pre (fieldC v 12 3 && getZ v 12 3 == 1), true)] (by kernel_rfl) (by simp [pre, fieldC_lit hv, hf3, hv, hv, h0, h1, h2, h3, h4, h5, h6, h7, h8]) w hG).of_eq (by first | (simp only [operZ, pre, fieldC_lit hv, hf3, hv, hv, h0, h1, h2, h3, h4, h5, h6, h7, h8]; rfl) | simp [operZ, pre, fieldC_lit hv, hf3, hv, hv, h0, h1, h2, h3, h4, h5, h6, h7, h8])
                  · rcases Bool.eq_false_or_eq_true (getZ v 0 7 == 59) with h9 | h9
                    · exact (retP (TabOk.none _ _) (pOperC_ok 1) (fuel := 1000) O1 [false, false, false, false, false, false, false, false, false, true] (v := .int .i64 (byF7Z v 47 0 0)) [(pre (w32B v), true), (getZ v 0 7 == 59, true), (getZ v 0 7 == 55, false), (getZ v 0 7 == 51, false), (getZ v 0 7 == 47, false), (getZ v 0 7 == 35, false), (getZ v 0 7 == 27, false), (getZ v 0 7 == 23, false), (getZ v 0 7 == 19, false), (getZ v 0 7 == 15, false), (getZ v 0 7 == 3, false), (pre (fieldC v 0 7), true), (pre (fieldC v 12 3 && getZ v 12 3 == 1), true)] (by kernel_rfl) (by simp [pre, fieldC_lit hv, hf3, hv, hv, h0, h1, h2, h3, h4, h5, h6, h7, h8, h9]) w hG).of_eq (by first | (simp only [operZ, pre, fieldC_lit hv, hf3, hv, hv, h0, h1, h2, h3, h4, h5, h6, h7, h8, h9]; rfl) | simp [operZ, pre, fieldC_lit hv, hf3, hv, hv, h0, h1, h2, h3, h4, h5, h6, h7, h8, h9])
                    · rcases Bool.eq_false_or_eq_true (getZ v 0 7 == 99) with h10 | h10
                      · exact (retP (TabOk.none _ _) (pOperC_ok 1) (fuel := 1000) O1 [false, false, false, false, false, false, false, false, false, false, true] (v := .int .i64 (6)) [(getZ v 0 7 == 99, true), (getZ v 0 7 == 59, false), (getZ v 0 7 == 55, false), (getZ v 0 7 == 51, false), (getZ v 0 7 == 47, false), (getZ v 0 7 == 35, false), (getZ v 0 7 == 27, false), (getZ v 0 7 == 23, false), (getZ v 0 7 == 19, false), (getZ v 0 7 == 15, false), (getZ v 0 7 == 3, false), (pre (fieldC v 0 7), true), (pre (fieldC v 12 3 && getZ v 12 3 == 1), true)] (by kernel_rfl) (by simp [pre, fieldC_lit hv, hf3, hv, hv, h0, h1, h2, h3, h4, h5, h6, h7, h8, h9, h10]) w hG).of_eq (by first | (simp only [operZ, pre, fieldC_lit hv, hf3, hv, hv, h0, h1, h2, h3, h4, h5, h6, h7, h8, h9, h10]; rfl) | simp [operZ, pre, fieldC_lit hv, hf3, hv, hv, h0, h1, h2, h3, h4, h5, h6, h7, h8, h9, h10])
                      · rcases Bool.eq_false_or_eq_true (getZ v 0 7 == 103) with h11 | h11
                        · exact (retP (TabOk.none _ _) (pOperC_ok 1) (fuel := 1000) O1 [false, false, false, false, false, false, false, false, false, false, false, true] (v := .int .i64 (4)) [(getZ v 0 7 == 103, true), (getZ v 0 7 == 99, false), (getZ v 0 7 == 59, false), (getZ v 0 7 == 55, false), (getZ v 0 7 == 51, false), (getZ v 0 7 == 47, false), (getZ v 0 7 == 35, false), (getZ v 0 7 == 27, false), (getZ v 0 7 == 23, false), (getZ v 0 7 == 19, false), (getZ v 0 7 == 15, false), (getZ v 0 7 == 3, false), (pre (fieldC v 0 7), true), (pre (fieldC v 12 3 && getZ v 12 3 == 1), true)] (by kernel_rfl) (by simp [pre, fieldC_lit hv, hf3, hv, hv, h0, h1, h2, h3, h4, h5, h6, h7, h8, h9, h10, h11]) w hG).of_eq (by first | (simp only [operZ, pre, fieldC_lit hv, hf3, hv, hv, h0, h1, h2, h3, h4, h5, h6, h7, h8, h9, h10, h11]; rfl) | simp [operZ, pre, fieldC_lit hv, hf3, hv, hv, h0, h1, h2, h3, h4, h5, h6, h7, h8, h9, h10, h11])
                        · rcases Bool.eq_false_or_eq_true (getZ v 0 7 == 111) with h12 | h12
                          · exact (retP (TabOk.none _ _) (pOperC_ok 1) (fuel := 1000) O1 [false, false, false, false, false, false, false, false, false, false, false, false, true] (v := .int .i64 (3)) [(getZ v 0 7 == 111, true), (getZ v 0 7 == 103, false), (getZ v 0 7 == 99, false), (getZ v 0 7 == 59, false), (getZ v 0 7 == 55, false), (getZ v 0 7 == 51, false), (getZ v 0 7 == 47, false), (getZ v 0 7 == 35, false), (getZ v 0 7 == 27, false), (getZ v 0 7 == 23, false), (getZ v 0 7 == 19, false), (getZ v 0 7 == 15, false), (getZ v 0 7 == 3, false), (pre (fieldC v 0 7), true), (pre (fieldC v 12 3 && getZ v 12 3 == 1), true)] (by kernel_rfl) (by simp [pre, fieldC_lit hv, hf3, hv, hv, h0, h1, h2, h3, h4, h5, h6, h7, h8, h9, h10, h11, h12]) w hG).of_eq (by first | (simp only [operZ, pre, fieldC_lit hv, hf3, hv, hv, h0, h1, h2, h3, h4, h5, h6, h7, h8, h9, h10, h11, h12]; rfl) | simp [operZ, pre, fieldC_lit hv, hf3, hv, hv, h0, h1, h2, h3, h4, h5, h6, h7, h8, h9, h10, h11, h12])
                          · rcases Bool.eq_false_or_eq_true (getZ v 0 7 == 115) with h13 | h13
                            · exact (retP (TabOk.none _ _) (pOperC_ok 1) (fuel := 1000) O1 [false, false, false, false, false, false, false, false, false, false, false, false, false, true] (v := .int .i64 (systemZ v)) [(pre (w32B v), true), (getZ v 0 7 == 115, true), (getZ v 0 7 == 111, false), (getZ v 0 7 == 103, false), (getZ v 0 7 == 99, false), (getZ v 0 7 == 59, false), (getZ v 0 7 == 55, false), (getZ v 0 7 == 51, false), (getZ v 0 7 == 47, false), (getZ v 0 7 == 35, false), (getZ v 0 7 == 27, false), (getZ v 0 7 == 23, false), (getZ v 0 7 == 19, false), (getZ v 0 7 == 15, false), (getZ v 0 7 == 3, false), (pre (fieldC v 0 7), true), (pre (fieldC v 12 3 && getZ v 12 3 == 1), true)] (by kernel_rfl) (by simp [pre, fieldC_lit hv, hf3, hv, hv, h0, h1, h2, h3, h4, h5, h6, h7, h8, h9, h10, h11, h12, h13]) w hG).of_eq (by first | (simp only [operZ, pre, fieldC_lit hv, hf3, hv, hv, h0, h1, h2, h3, h4, h5, h6, h7, h8, h9, h10, h11, h12, h13]; rfl) | simp [operZ, pre, fieldC_lit hv, hf3, hv, hv, h0, h1, h2, h3, h4, h5, h6, h7, h8, h9, h10, h11, h12, h13])
                            · exact (retP (TabOk.none _ _) (pOperC_ok 1) (fuel := 1000) O1 [false, false, false, false, false, false, false, false, false, false, false, false, false, false] (v := .int .i64 (0)) [(getZ v 0 7 == 115, false), (getZ v 0 7 == 111, false), (getZ v 0 7 == 103, false), (getZ v 0 7 == 99, false), (getZ v 0 7 == 59, false), (getZ v 0 7 == 55, false), (getZ v 0 7 == 51, false), (getZ v 0 7 == 47, false), (getZ v 0 7 == 35, false), (getZ v 0 7 == 27, false), (getZ v 0 7 == 23, false), (getZ v 0 7 == 19, false), (getZ v 0 7 == 15, false), (getZ v 0 7 == 3, false), (pre (fieldC v 0 7), true), (pre (fieldC v 12 3 && getZ v 12 3 == 1), true)] (by kernel_rfl) (by simp [pre, fieldC_lit hv, hf3, hv, hv, h0, h1, h2, h3, h4, h5, h6, h7, h8, h9, h10, h11, h12, h13]) w hG).of_eq (by first | (simp only [operZ, pre, fieldC_lit hv, hf3, hv, hv, h0, h1, h2, h3, h4, h5, h6, h7, h8, h9, h10, h11, h12, h13]; rfl) | simp [operZ, pre, fieldC_lit hv, hf3, hv, hv, h0, h1, h2, h3, h4, h5, h6, h7, h8, h9, h10, h11, h12, h13])
theorem operation_2 (v : Int) (hv : w32B v = true) (hf3 : getZ v 12 3 = 2) (w : World) (hG : GlobOk decGl w) : Ret Tryd.prog 62 #[.int .u32 v] (.int .i64 (operZ 2 v)) w := by
  rcases Bool.eq_false_or_eq_true (getZ v 0 7 == 3) with h0 | h0
  · exact (retP (TabOk.none _ _) (pOperC_ok 2) (fuel := 1000) O1 [true] (v := .int .i64 (13)) [(getZ v 0 7 == 3, true), (pre (fieldC v 0 7), true), (pre (fieldC v 12 3 && getZ v 12 3 == 2), true)] (by kernel_rfl) (by simp [pre, fieldC_lit hv, hf3, hv, hv, h0]) w hG).of_eq (by first | (simp only [operZ, pre, fieldC_lit hv, hf3, hv, hv, h0]; rfl) | simp [operZ, pre, fieldC_lit hv, hf3, hv, hv, h0])
  · rcases Bool.eq_false_or_eq_true (getZ v 0 7 == 15) with h1 | h1
    · exact (retP (TabOk.none _ _) (pOperC_ok 2) (fuel := 1000) O1 [false, true] (v := .int .i64 (63)) [(getZ v 0 7 == 15, true), (getZ v 0 7 == 3, false), (pre (fieldC v 0 7), true), (pre (fieldC v 12 3 && getZ v 12 3 == 2), true)] (by kernel_rfl) (by simp [pre, fieldC_lit hv, hf3, hv, hv, h0, h1]) w hG).of_eq (by first | (simp only [operZ, pre, fieldC_lit hv, hf3, hv, hv, h0, h1]; rfl) | simp [operZ, pre, fieldC_lit hv, hf3, hv, hv, h0, h1])
    · rcases Bool.eq_false_or_eq_true (getZ v 0 7 == 19) with h2 | h2
      · exact (retP (TabOk.none _ _) (pOperC_ok 2) (fuel := 1000) O1 [false, false, true] (v := .int .i64 (immediateZ v 23 30)) [(pre (w32B v), true), (getZ v 0 7 == 19, true), (getZ v 0 7 == 15, false), (getZ v 0 7 == 3, false), (pre (fieldC v 0 7), true), (pre (fieldC v 12 3 && getZ v 12 3 == 2), true)] (by kernel_rfl) (by simp [pre, fieldC_lit hv, hf3, hv, hv, h0, h1, h2]) w hG).of_eq (by first | (simp only [operZ, pre, fieldC_lit hv, hf3, hv, hv, h0, h1, h2]; rfl) | simp [operZ, pre, fieldC_lit hv, hf3, hv, hv, h0, h1, h2])
      · rcases Bool.eq_false_or_eq_true (getZ v 0 7 == 23) with h3 | h3
        · exact (retP (TabOk.none _ _) (pOperC_ok 2) (fuel := 1000) O1 [false, false, false, true] (v := .int .i64 (2)) [(getZ v 0 7 == 23, true), (getZ v 0 7 == 19, false), (getZ v 0 7 == 15, false), (getZ v 0 7 == 3, false), (pre (fieldC v 0 7), true), (pre (fieldC v 12 3 && getZ v 12 3 == 2), true)] (by kernel_rfl) (by simp [pre, fieldC_lit hv, hf3, hv, hv, h0, h1, h2, h3]) w hG).of_eq (by first | (simp only [operZ, pre, fieldC_lit hv, hf3, hv, hv, h0, h1, h2, h3]; rfl) | simp [operZ, pre, fieldC_lit hv, hf3, hv, hv, h0, h1, h2, h3])
        · rcases Bool.eq_false_or_eq_true (getZ v 0 7 == 27) with h4 | h4
          · exact (retP (TabOk.none _ _) (pOperC_ok 2) (fuel := 1000) O1 [false, false, false, false, true] (v := .int .i64 (immediateZ v 0 34)) [(pre (w32B v), true), (getZ v 0 7 == 27, true), (getZ v 0 7 == 23, false), (getZ v 0 7 == 19, false), (getZ v 0 7 == 15, false), (getZ v 0 7 == 3, false), (pre (fieldC v 0 7), true), (pre (fieldC v 12 3 && getZ v 12 3 == 2), true)] (by kernel_rfl) (by simp [pre, fieldC_lit hv, hf3, hv, hv, h0, h1, h2, h3, h4]) w hG).of_eq (by first | (simp only [operZ, pre, fieldC_lit hv, hf3, hv, hv, h0, h1, h2, h3, h4]; rfl) | simp [operZ, pre, fieldC_lit hv, hf3, hv, hv, h0, h1, h2, h3, h4])
          · rcases Bool.eq_false_or_eq_true (getZ v 0 7 == 35) with h5 | h5
            · exact (retP (TabOk.none _ _) (pOperC_ok 2) (fuel := 1000) O1 [false, false, false, false, false, true] (v := .int .i64 (20)) [(getZ v 0 7 == 35, true), (getZ v 0 7 == 27, false), (getZ v 0 7 == 23, false), (getZ v 0 7 == 19, false), (getZ v 0 7 == 15, false), (getZ v 0 7 == 3, false), (pre (fieldC v 0 7), true), (pre (fieldC v 12 3 && getZ v 12 3 == 2), true)] (by kernel_rfl) (by simp [pre, fieldC_lit hv, hf3, hv, hv, h0, h1, h2, h3, h4, h5]) w hG).of_eq (by first | (simp only [operZ, pre, fieldC_lit hv, hf3, hv, hv, h0, h1, h2, h3, h4, h5]; rfl) | simp [operZ, pre, fieldC_lit hv, hf3, hv, hv, h0, h1, h2, h3, h4, h5])
            · rcases Bool.eq_false_or_eq_true (getZ v 0 7 == 47) with h6 | h6
              · exact (retP (TabOk.none _ _) (pOperC_ok 2) (fuel := 1000) O1 [false, false, false, false, false, false, true] (v := .int .i64 (amoZ v)) [(pre (w32B v), true), (getZ v 0 7 == 47, true), (getZ v 0 7 == 35, false), (getZ v 0 7 == 27, false), (getZ v 0 7 == 23, false), (getZ v 0 7 == 19, false), (getZ v 0 7 == 15, false), (getZ v 0 7 == 3, false), (pre (fieldC v 0 7), true), (pre (fieldC v 12 3 && getZ v 12 3 == 2), true)] (by kernel_rfl) (by simp [pre, fieldC_lit hv, hf3, hv, hv, h0, h1, h2, h3, h4, h5, h6]) w hG).of_eq (by first | (simp only [operZ, pre, fieldC_lit hv, hf3, hv, hv, h0, h1, h2, h3, h4, h5, h6]; rfl) | simp [operZ, pre, fieldC_lit hv, hf3, hv, hv, h0, h1, h2, h3, h4, h5, h6])
              · rcases Bool.eq_false_or_eq_true (getZ v 0 7 == 51) with h7 | h7
                · exact (retP (TabOk.none _ _) (pOperC_ok 2) (fuel := 1000) O1 [false, false, false, false, false, false, false, true] (v := .int .i64 (byF7Z v 38 52 0)) [(pre (w32B v), true), (getZ v 0 7 == 51, true), (getZ v 0 7 == 47, false), (getZ v 0 7 == 35, false), (getZ v 0 7 == 27, false), (getZ v 0 7 == 23, false), (getZ v 0 7 == 19, false), (getZ v 0 7 == 15, false), (getZ v 0 7 == 3, false), (pre (fieldC v 0 7), true), (pre (fieldC v 12 3 && getZ v 12 3 == 2), true)] (by kernel_rfl) (by simp [pre, fieldC_lit hv, hf3, hv, hv, h0, h1, h2, h3, h4, h5, h6, h7]) w hG).of_eq (by first | (simp only [operZ, pre, fieldC_lit hv, hf3, hv, hv, h0, h1, h2, h3, h4, h5, h6, h7]; rfl) | simp [operZ, pre, fieldC_lit hv, hf3, hv, hv, h0, h1, h2, h3, h4, h5, h6, h7])
                · rcases Bool.eq_false_or_eq_true (getZ v 0 7 == 55) with h8 | h8
                  · exact (retP (TabOk.none _ _) (pOperC_ok 2) (fuel := 1000) O1 [false, false, false, false, false, false, false, false, true] (v := .int .i64 (1)) [(getZ v 0 7 == 55, true), (getZ v 0 7 == 51, false), (getZ v 0 7 == 47, false), (getZ v 0 7 == 35, false), (getZ v 0 7 == 27, false), (getZ v 0 7 == 23, false), (getZ v 0 7 == 19, false), (getZ v 0 7 == 15, false), (getZ v 0 7 == 3, false), (pre (fieldC v 0 7), true), (pre (fieldC v 12 3 && getZ v 12 3 == 2), true)] (by kernel_rfl) (by simp [pre, fieldC_lit hv, hf3, hv, hv, h0, h1, h2, h3, h4, h5, h6, h7, h8]) w hG).of_eq (by first | (simp only [operZ, pre, fieldC_lit hv, hf3, hv, hv, h0, h1, h2, h3, h4, h5, h6, h7, h8]; rfl) | simp [operZ, pre, fieldC_lit hv, hf3, hv, hv, h0, h1, h2, h3, h4, h5, h6, h7, h8])
                  · rcases Bool.eq_false_or_eq_true (getZ v 0 7 == 59) with h9 | h9
                    · exact (retP (TabOk.none _ _) (pOperC_ok 2) (fuel := 1000) O1 [false, false, false, false, false, false, false, false, false, true] (v := .int .i64 (byF7Z v 0 0 0)) [(pre (w32B v), true), (getZ v 0 7 == 59, true), (getZ v 0 7 == 55, false), (getZ v 0 7 == 51, false), (getZ v 0 7 == 47, false), (getZ v 0 7 == 35, false), (getZ v 0 7 == 27, false), (getZ v 0 7 == 23, false), (getZ v 0 7 == 19, false), (getZ v 0 7 == 15, false), (getZ v 0 7 == 3, false), (pre (fieldC v 0 7), true), (pre (fieldC v 12 3 && getZ v 12 3 == 2), true)] (by kernel_rfl) (by simp [pre, fieldC_lit hv, hf3, hv, hv, h0, h1, h2, h3, h4, h5, h6, h7, h8, h9]) w hG).of_eq (by first | (simp only [operZ, pre, fieldC_lit hv, hf3, hv, hv, h0, h1, h2, h3, h4, h5, h6, h7, h8, h9]; rfl) | simp [operZ, pre, fieldC_lit hv, hf3, hv, hv, h0, h1, h2, h3, h4, h5, h6, h7, h8, h9])
                    · rcases Bool.eq_false_or_eq_true (getZ v 0 7 == 99) with h10 | h10
                      · exact (retP (TabOk.none _ _) (pOperC_ok 2) (fuel := 1000) O1 [false, false, false, false, false, false, false, false, false, false, true] (v := .int .i64 (0)) [(getZ v 0 7 == 99, true), (getZ v 0 7 == 59, false), (getZ v 0 7 == 55, false), (getZ v 0 7 == 51, false), (getZ v 0 7 == 47, false), (getZ v 0 7 == 35, false), (getZ v 0 7 == 27, false), (getZ v 0 7 == 23, false), (getZ v 0 7 == 19, false), (getZ v 0 7 == 15, false), (getZ v 0 7 == 3, false), (pre (fieldC v 0 7), true), (pre (fieldC v 12 3 && getZ v 12 3 == 2), true)] (by kernel_rfl) (by simp [pre, fieldC_lit hv, hf3, hv, hv, h0, h1, h2, h3, h4, h5, h6, h7, h8, h9, h10]) w hG).of_eq (by first | (simp only [operZ, pre, fieldC_lit hv, hf3, hv, hv, h0, h1, h2, h3, h4, h5, h6, h7, h8, h9, h10]; rfl) | simp [operZ, pre, fieldC_lit hv, hf3, hv, hv, h0, h1, h2, h3, h4, h5, h6, h7, h8, h9, h10])
                      · rcases Bool.eq_false_or_eq_true (getZ v 0 7 == 103) with h11 | h11
                        · exact (retP (TabOk.none _ _) (pOperC_ok 2) (fuel := 1000) O1 [false, false, false, false, false, false, false, false, false, false, false, true] (v := .int .i64 (4)) [(getZ v 0 7 == 103, true), (getZ v 0 7 == 99, false), (getZ v 0 7 == 59, false), (getZ v 0 7 == 55, false), (getZ v 0 7 == 51, false), (getZ v 0 7 == 47, false), (getZ v 0 7 == 35, false), (getZ v 0 7 == 27, false), (getZ v 0 7 == 23, false), (getZ v 0 7 == 19, false), (getZ v 0 7 == 15, false), (getZ v 0 7 == 3, false), (pre (fieldC v 0 7), true), (pre (fieldC v 12 3 && getZ v 12 3 == 2), true)] (by kernel_rfl) (by simp [pre, fieldC_lit hv, hf3, hv, hv, h0, h1, h2, h3, h4, h5, h6, h7, h8, h9, h10, h11]) w hG).of_eq (by first | (simp only [operZ, pre, fieldC_lit hv, hf3, hv, hv, h0, h1, h2, h3, h4, h5, h6, h7, h8, h9, h10, h11]; rfl) | simp [operZ, pre, fieldC_lit hv, hf3, hv, hv, h0, h1, h2, h3, h4, h5, h6, h7, h8, h9, h10, h11])
                        · rcases Bool.eq_false_or_eq_true (getZ v 0 7 == 111) with h12 | h12
                          · exact (retP (TabOk.none _ _) (pOperC_ok 2) (fuel := 1000) O1 [false, false, false, false, false, false, false, false, false, false, false, false, true] (v := .int .i64 (3)) [(getZ v 0 7 == 111, true), (getZ v 0 7 == 103, false), (getZ v 0 7 == 99, false), (getZ v 0 7 == 59, false), (getZ v 0 7 == 55, false), (getZ v 0 7 == 51, false), (getZ v 0 7 == 47, false), (getZ v 0 7 == 35, false), (getZ v 0 7 == 27, false), (getZ v 0 7 == 23, false), (getZ v 0 7 == 19, false), (getZ v 0 7 == 15, false), (getZ v 0 7 == 3, false), (pre (fieldC v 0 7), true), (pre (fieldC v 12 3 && getZ v 12 3 == 2), true)] (by kernel_rfl) (by simp [pre, fieldC_lit hv, hf3, hv, hv, h0, h1, h2, h3, h4, h5, h6, h7, h8, h9, h10, h11, h12]) w hG).of_eq (by first | (simp only [operZ, pre, fieldC_lit hv, hf3, hv, hv, h0, h1, h2, h3, h4, h5, h6, h7, h8, h9, h10, h11, h12]; rfl) | simp [operZ, pre, fieldC_lit hv, hf3, hv, hv, h0, h1, h2, h3, h4, h5, h6, h7, h8, h9, h10, h11, h12])
                          · rcases Bool.eq_false_or_eq_true (getZ v 0 7 == 115) with h13 | h13
                            · exact (retP (TabOk.none _ _) (pOperC_ok 2) (fuel := 1000) O1 [false, false, false, false, false, false, false, false, false, false, false, false, false, true] (v := .int .i64 (systemZ v)) [(pre (w32B v), true), (getZ v 0 7 == 115, true), (getZ v 0 7 == 111, false), (getZ v 0 7 == 103, false), (getZ v 0 7 == 99, false), (getZ v 0 7 == 59, false), (getZ v 0 7 == 55, false), (getZ v 0 7 == 51, false), (getZ v 0 7 == 47, false), (getZ v 0 7 == 35, false), (getZ v 0 7 == 27, false), (getZ v 0 7 == 23, false), (getZ v 0 7 == 19, false), (getZ v 0 7 == 15, false), (getZ v 0 7 == 3, false), (pre (fieldC v 0 7), true), (pre (fieldC v 12 3 && getZ v 12 3 == 2), true)] (by kernel_rfl) (by simp [pre, fieldC_lit hv, hf3, hv, hv, h0, h1, h2, h3, h4, h5, h6, h7, h8, h9, h10, h11, h12, h13]) w hG).of_eq (by first | (simp only [operZ, pre, fieldC_lit hv, hf3, hv, hv, h0, h1, h2, h3, h4, h5, h6, h7, h8, h9, h10, h11, h12, h13]; rfl) | simp [operZ, pre, fieldC_lit hv, hf3, hv, hv, h0, h1, h2, h3, h4, h5, h6, h7, h8, h9, h10, h11, h12, h13])
                            · exact (retP (TabOk.none _ _) (pOperC_ok 2) (fuel := 1000) O1 [false, false, false, false, false, false, false, false, false, false, false, false, false, false] (v := .int .i64 (0)) [(getZ v 0 7 == 115, false), (getZ v 0 7 == 111, false), (getZ v 0 7 == 103, false), (getZ v 0 7 == 99, false), (getZ v 0 7 == 59, false), (getZ v 0 7 == 55, false), (getZ v 0 7 == 51, false), (getZ v 0 7 == 47, false), (getZ v 0 7 == 35, false), (getZ v 0 7 == 27, false), (getZ v 0 7 == 23, false), (getZ v 0 7 == 19, false), (getZ v 0 7 == 15, false), (getZ v 0 7 == 3, false), (pre (fieldC v 0 7), true), (pre (fieldC v 12 3 && getZ v 12 3 == 2), true)] (by kernel_rfl) (by simp [pre, fieldC_lit hv, hf3, hv, hv, h0, h1, h2, h3, h4, h5, h6, h7, h8, h9, h10, h11, h12, h13]) w hG).of_eq (by first | (simp only [operZ, pre, fieldC_lit hv, hf3, hv, hv, h0, h1, h2, h3, h4, h5, h6, h7, h8, h9, h10, h11, h12, h13]; rfl) | simp [operZ, pre, fieldC_lit hv, hf3, hv, hv, h0, h1, h2, h3, h4, h5, h6, h7, h8, h9, h10, h11, h12, h13])
theorem operation_3 (v : Int) (hv : w32B v = true) (hf3 : getZ v 12 3 = 3) (w : World) (hG : GlobOk decGl w) : Ret Tryd.prog 62 #[.int .u32 v] (.int .i64 (operZ 3 v)) w := by
  rcases Bool.eq_false_or_eq_true (getZ v 0 7 == 3) with h0 | h0
  · exact (retP (TabOk.none _ _) (pOperC_ok 3) (fuel := 1000) O1 [true] (v := .int .i64 (14)) [(getZ v 0 7 == 3, true), (pre (fieldC v 0 7), true), (pre (fieldC v 12 3 && getZ v 12 3 == 3), true)] (by kernel_rfl) (by simp [pre, fieldC_lit hv, hf3, hv, hv, h0]) w hG).of_eq (by first | (simp only [operZ, pre, fieldC_lit hv, hf3, hv, hv, h0]; rfl) | simp [operZ, pre, fieldC_lit hv, hf3, hv, hv, h0])
  · rcases Bool.eq_false_or_eq_true (getZ v 0 7 == 15) with h1 | h1
    · exact (retP (TabOk.none _ _) (pOperC_ok 3) (fuel := 1000) O1 [false, true] (v := .int .i64 (63)) [(getZ v 0 7 == 15, true), (getZ v 0 7 == 3, false), (pre (fieldC v 0 7), true), (pre (fieldC v 12 3 && getZ v 12 3 == 3), true)] (by kernel_rfl) (by simp [pre, fieldC_lit hv, hf3, hv, hv, h0, h1]) w hG).of_eq (by first | (simp only [operZ, pre, fieldC_lit hv, hf3, hv, hv, h0, h1]; rfl) | simp [operZ, pre, fieldC_lit hv, hf3, hv, hv, h0, h1])
    · rcases Bool.eq_false_or_eq_true (getZ v 0 7 == 19) with h2 | h2
      · exact (retP (TabOk.none _ _) (pOperC_ok 3) (fuel := 1000) O1 [false, false, true] (v := .int .i64 (immediateZ v 24 30)) [(pre (w32B v), true), (getZ v 0 7 == 19, true), (getZ v 0 7 == 15, false), (getZ v 0 7 == 3, false), (pre (fieldC v 0 7), true), (pre (fieldC v 12 3 && getZ v 12 3 == 3), true)] (by kernel_rfl) (by simp [pre, fieldC_lit hv, hf3, hv, hv, h0, h1, h2]) w hG).of_eq (by first | (simp only [operZ, pre, fieldC_lit hv, hf3, hv, hv, h0, h1, h2]; rfl) | simp [operZ, pre, fieldC_lit hv, hf3, hv, hv, h0, h1, h2])
      · rcases Bool.eq_false_or_eq_true (getZ v 0 7 == 23) with h3 | h3
        · exact (retP (TabOk.none _ _) (pOperC_ok 3) (fuel := 1000) O1 [false, false, false, true] (v := .int .i64 (2)) [(getZ v 0 7 == 23, true), (getZ v 0 7 == 19, false), (getZ v 0 7 == 15, false), (getZ v 0 7 == 3, false), (pre (fieldC v 0 7), true), (pre (fieldC v 12 3 && getZ v 12 3 == 3), true)] (by kernel_rfl) (by simp [pre, fieldC_lit hv, hf3, hv, hv, h0, h1, h2, h3]) w hG).of_eq (by first | (simp only [operZ, pre, fieldC_lit hv, hf3, hv, hv, h0, h1, h2, h3]; rfl) | simp [operZ, pre, fieldC_lit hv, hf3, hv, hv, h0, h1, h2, h3])
        · rcases Bool.eq_false_or_eq_true (getZ v 0 7 == 27) with h4 | h4
          · exact (retP (TabOk.none _ _) (pOperC_ok 3) (fuel := 1000) O1 [false, false, false, false, true] (v := .int .i64 (immediateZ v 0 34)) [(pre (w32B v), true), (getZ v 0 7 == 27, true), (getZ v 0 7 == 23, false), (getZ v 0 7 == 19, false), (getZ v 0 7 == 15, false), (getZ v 0 7 == 3, false), (pre (fieldC v 0 7), true), (pre (fieldC v 12 3 && getZ v 12 3 == 3), true)] (by kernel_rfl) (by simp [pre, fieldC_lit hv, hf3, hv, hv, h0, h1, h2, h3, h4]) w hG).of_eq (by first | (simp only [operZ, pre, fieldC_lit hv, hf3, hv, hv, h0, h1, h2, h3, h4]; rfl) | simp [operZ, pre, fieldC_lit hv, hf3, hv, hv, h0, h1, h2, h3, h4])
          · rcases Bool.eq_false_or_eq_true (getZ v 0 7 == 35) with h5 | h5
            · exact (retP (TabOk.none _ _) (pOperC_ok 3) (fuel := 1000) O1 [false, false, false, false, false, true] (v := .int .i64 (21)) [(getZ v 0 7 == 35, true), (getZ v 0 7 == 27, false), (getZ v 0 7 == 23, false), (getZ v 0 7 == 19, false), (getZ v 0 7 == 15, false), (getZ v 0 7 == 3, false), (pre (fieldC v 0 7), true), (pre (fieldC v 12 3 && getZ v 12 3 == 3), true)] (by kernel_rfl) (by simp [pre, fieldC_lit hv, hf3, hv, hv, h0, h1, h2, h3, h4, h5]) w hG).of_eq (by first | (simp only [operZ, pre, fieldC_lit hv, hf3, hv, hv, h0, h1, h2, h3, h4, h5]; rfl) | simp [operZ, pre, fieldC_lit hv, hf3, hv, hv, h0, h1, h2, h3, h4, h5])
            · rcases Bool.eq_false_or_eq_true (getZ v 0 7 == 47) with h6 | h6
              · exact (retP (TabOk.none _ _) (pOperC_ok 3) (fuel := 1000) O1 [false, false, false, false, false, false, true] (v := .int .i64 (amoZ v)) [(pre (w32B v), true), (getZ v 0 7 == 47, true), (getZ v 0 7 == 35, false), (getZ v 0 7 == 27, false), (getZ v 0 7 == 23, false), (getZ v 0 7 == 19, false), (getZ v 0 7 == 15, false), (getZ v 0 7 == 3, false), (pre (fieldC v 0 7), true), (pre (fieldC v 12 3 && getZ v 12 3 == 3), true)] (by kernel_rfl) (by simp [pre, fieldC_lit hv, hf3, hv, hv, h0, h1, h2, h3, h4, h5, h6]) w hG).of_eq (by first | (simp only [operZ, pre, fieldC_lit hv, hf3, hv, hv, h0, h1, h2, h3, h4, h5, h6]; rfl) | simp [operZ, pre, fieldC_lit hv, hf3, hv, hv, h0, h1, h2, h3, h4, h5, h6])
              · rcases Bool.eq_false_or_eq_true (getZ v 0 7 == 51) with h7 | h7
                · exact (retP (TabOk.none _ _) (pOperC_ok 3) (fuel := 1000) O1 [false, false, false, false, false, false, false, true] (v := .int .i64 (byF7Z v 39 53 0)) [(pre (w32B v), true), (getZ v 0 7 == 51, true), (getZ v 0 7 == 47, false), (getZ v 0 7 == 35, false), (getZ v 0 7 == 27, false), (getZ v 0 7 == 23, false), (getZ v 0 7 == 19, false), (getZ v 0 7 == 15, false), (getZ v 0 7 == 3, false), (pre (fieldC v 0 7), true), (pre (fieldC v 12 3 && getZ v 12 3 == 3), true)] (by kernel_rfl) (by simp [pre, fieldC_lit hv, hf3, hv, hv, h0, h1, h2, h3, h4, h5, h6, h7]) w hG).of_eq (by first | (simp only [operZ, pre, fieldC_lit hv, hf3, hv, hv, h0, h1, h2, h3, h4, h5, h6, h7]; rfl) | simp [operZ, pre, fieldC_lit hv, hf3, hv, hv, h0, h1, h2, h3, h4, h5, h6, h7])
                · rcases Bool.eq_false_or_eq_true (getZ v 0 7 == 55) with h8 | h8
                  · exact (retP (TabOk.none _ _) (pOperC_ok 3) (fuel := 1000) O1 [false, false, false, false, false, false, false, false, true] (v := .int .i64 (1)) [(getZ v 0 7 == 55, true), (getZ v 0 7 == 51, false), (getZ v 0 7 == 47, false), (getZ v 0 7 == 35, false), (getZ v 0 7 == 27, false), (getZ v 0 7 == 23, false), (getZ v 0 7 == 19, false), (getZ v 0 7 == 15, false), (getZ v 0 7 == 3, false), (pre (fieldC v 0 7), true), (pre (fieldC v 12 3 && getZ v 12 3 == 3), true)] (by kernel_rfl) (by simp [pre, fieldC_lit hv, hf3, hv, hv, h0, h1, h2, h3, h4, h5, h6, h7, h8]) w hG).of_eq (by first | (simp only [operZ, pre, fieldC_lit hv, hf3, hv, hv, h0, h1, h2, h3, h4, h5, h6, h7, h8]; rfl) | simp [operZ, pre, fieldC_lit hv, hf3, hv, hv, h0, h1, h2, h3, h4, h5, h6, h7, h8])
                  · rcases Bool.eq_false_or_eq_true (getZ v 0 7 == 59) with h9 | h9
                    · exact (retP (TabOk.none _ _) (pOperC_ok 3) (fuel := 1000) O1 [false, false, false, false, false, false, false, false, false, true] (v := .int .i64 (byF7Z v 0 0 0)) [(pre (w32B v), true), (getZ v 0 7 == 59, true), (getZ v 0 7 == 55, false), (getZ v 0 7 == 51, false), (getZ v 0 7 == 47, false), (getZ v 0 7 == 35, false), (getZ v 0 7 == 27, false), (getZ v 0 7 == 23, false), (getZ v 0 7 == 19, false), (getZ v 0 7 == 15, false), (getZ v 0 7 == 3, false), (pre (fieldC v 0 7), true), (pre (fieldC v 12 3 && getZ v 12 3 == 3), true)] (by kernel_rfl) (by simp [pre, fieldC_lit hv, hf3, hv, hv, h0, h1, h2, h3, h4, h5, h6, h7, h8, h9]) w hG).of_eq (by first | (simp only [operZ, pre, fieldC_lit hv, hf3, hv, hv, h0, h1, h2, h3, h4, h5, h6, h7, h8, h9]; rfl) | simp [operZ, pre, fieldC_lit hv, hf3, hv, hv, h0, h1, h2, h3, h4, h5, h6, h7, h8, h9])
                    · rcases Bool.eq_false_or_eq_true (getZ v 0 7 == 99) with h10 | h10
                      · exact (retP (TabOk.none _ _) (pOperC_ok 3) (fuel := 1000) O1 [false, false, false, false, false, false, false, false, false, false, true] (v := .int .i64 (0)) [(getZ v 0 7 == 99, true), (getZ v 0 7 == 59, false), (getZ v 0 7 == 55, false), (getZ v 0 7 == 51, false), (getZ v 0 7 == 47, false), (getZ v 0 7 == 35, false), (getZ v 0 7 == 27, false), (getZ v 0 7 == 23, false), (getZ v 0 7 == 19, false), (getZ v 0 7 == 15, false), (getZ v 0 7 == 3, false), (pre (fieldC v 0 7), true), (pre (fieldC v 12 3 && getZ v 12 3 == 3), true)] (by kernel_rfl) (by simp [pre, fieldC_lit hv, hf3, hv, hv, h0, h1, h2, h3, h4, h5, h6, h7, h8, h9, h10]) w hG).of_eq (by first | (simp only [operZ, pre, fieldC_lit hv, hf3, hv, hv, h0, h1, h2, h3, h4, h5, h6, h7, h8, h9, h10]; rfl) | simp [operZ, pre, fieldC_lit hv, hf3, hv, hv, h0, h1, h2, h3, h4, h5, h6, h7, h8, h9, h10])
                      · rcases Bool.eq_false_or_eq_true (getZ v 0 7 == 103) with h11 | h11
                        · exact (retP (TabOk.none _ _) (pOperC_ok 3) (fuel := 1000) O1 [false, false, false, false, false, false, false, false, false, false, false, true] (v := .int .i64 (4)) [(getZ v 0 7 == 103, true), (getZ v 0 7 == 99, false), (getZ v 0 7 == 59, false), (getZ v 0 7 == 55, false), (getZ v 0 7 == 51, false), (getZ v 0 7 == 47, false), (getZ v 0 7 == 35, false), (getZ v 0 7 == 27, false), (getZ v 0 7 == 23, false), (getZ v 0 7 == 19, false), (getZ v 0 7 == 15, false), (getZ v 0 7 == 3, false), (pre (fieldC v 0 7), true), (pre (fieldC v 12 3 && getZ v 12 3 == 3), true)] (by kernel_rfl) (by simp [pre, fieldC_lit hv, hf3, hv, hv, h0, h1, h2, h3, h4, h5, h6, h7, h8, h9, h10, h11]) w hG).of_eq (by first | (simp only [operZ, pre, fieldC_lit hv, hf3, hv, hv, h0, h1, h2, h3, h4, h5, h6, h7, h8, h9, h10, h11]; rfl) | simp [operZ, pre, fieldC_lit hv, hf3, hv, hv, h0, h1, h2, h3, h4, h5, h6, h7, h8, h9, h10, h11])
                        · rcases Bool.eq_false_or_eq_true (getZ v 0 7 == 111) with h12 | h12
                          · exact (retP (TabOk.none _ _) (pOperC_ok 3) (fuel := 1000) O1 [false, false, false, false, false, false, false, false, false, false, false, false, true] (v := .int .i64 (3)) [(getZ v 0 7 == 111, true), (getZ v 0 7 == 103, false), (getZ v 0 7 == 99, false), (getZ v 0 7 == 59, false), (getZ v 0 7 == 55, false), (getZ v 0 7 == 51, false), (getZ v 0 7 == 47, false), (getZ v 0 7 == 35, false), (getZ v 0 7 == 27, false), (getZ v 0 7 == 23, false), (getZ v 0 7 == 19, false), (getZ v 0 7 == 15, false), (getZ v 0 7 == 3, false), (pre (fieldC v 0 7), true), (pre (fieldC v 12 3 && getZ v 12 3 == 3), true)] (by kernel_rfl) (by simp [pre, fieldC_lit hv, hf3, hv, hv, h0, h1, h2, h3, h4, h5, h6, h7, h8, h9, h10, h11, h12]) w hG).of_eq (by first | (simp only [operZ, pre, fieldC_lit hv, hf3, hv, hv, h0, h1, h2, h3, h4, h5, h6, h7, h8, h9, h10, h11, h12]; rfl) | simp [operZ, pre, fieldC_lit hv, hf3, hv, hv, h0, h1, h2, h3, h4, h5, h6, h7, h8, h9, h10, h11, h12])
                          · rcases Bool.eq_false_or_eq_true (getZ v 0 7 == 115) with h13 | h13
                            · exact (retP (TabOk.none _ _) (pOperC_ok 3) (fuel := 1000) O1 [false, false, false, false, false, false, false, false, false, false, false, false, false, true] (v := .int .i64 (systemZ v)) [(pre (w32B v), true), (getZ v 0 7 == 115, true), (getZ v 0 7 == 111, false), (getZ v 0 7 == 103, false), (getZ v 0 7 == 99, false), (getZ v 0 7 == 59, false), (getZ v 0 7 == 55, false), (getZ v 0 7 == 51, false), (getZ v 0 7 == 47, false), (getZ v 0 7 == 35, false), (getZ v 0 7 == 27, false), (getZ v 0 7 == 23, false), (getZ v 0 7 == 19, false), (getZ v 0 7 == 15, false), (getZ v 0 7 == 3, false), (pre (fieldC v 0 7), true), (pre (fieldC v 12 3 && getZ v 12 3 == 3), true)] (by kernel_rfl) (by simp [pre, fieldC_lit hv, hf3, hv, hv, h0, h1, h2, h3, h4, h5, h6, h7, h8, h9, h10, h11, h12, h13]) w hG).of_eq (by first | (simp only [operZ, pre, fieldC_lit hv, hf3, hv, hv, h0, h1, h2, h3, h4, h5, h6, h7, h8, h9, h10, h11, h12, h13]; rfl) | simp [operZ, pre, fieldC_lit hv, hf3, hv, hv, h0, h1, h2, h3, h4, h5, h6, h7, h8, h9, h10, h11, h12, h13])
                            · exact (retP (TabOk.none _ _) (pOperC_ok 3) (fuel := 1000) O1 [false, false, false, false, false, false, false, false, false, false, false, false, false, false] (v := .int .i64 (0)) [(getZ v 0 7 == 115, false), (getZ v 0 7 == 111, false), (getZ v 0 7 == 103, false), (getZ v 0 7 == 99, false), (getZ v 0 7 == 59, false), (getZ v 0 7 == 55, false), (getZ v 0 7 == 51, false), (getZ v 0 7 == 47, false), (getZ v 0 7 == 35, false), (getZ v 0 7 == 27, false), (getZ v 0 7 == 23, false), (getZ v 0 7 == 19, false), (getZ v 0 7 == 15, false), (getZ v 0 7 == 3, false), (pre (fieldC v 0 7), true), (pre (fieldC v 12 3 && getZ v 12 3 == 3), true)] (by kernel_rfl) (by simp [pre, fieldC_lit hv, hf3, hv, hv, h0, h1, h2, h3, h4, h5, h6, h7, h8, h9, h10, h11, h12, h13]) w hG).of_eq (by first | (simp only [operZ, pre, fieldC_lit hv, hf3, hv, hv, h0, h1, h2, h3, h4, h5, h6, h7, h8, h9, h10, h11, h12, h13]; rfl) | simp [operZ, pre, fieldC_lit hv, hf3, hv, hv, h0, h1, h2, h3, h4, h5, h6, h7, h8, h9, h10, h11, h12, h13])
theorem operation_4 (v : Int) (hv : w32B v = true) (hf3 : getZ v 12 3 = 4) (w : World) (hG : GlobOk decGl w) : Ret Tryd.prog 62 #[.int .u32 v] (.int .i64 (operZ 4 v)) w := by
  rcases Bool.eq_false_or_eq_true (getZ v 0 7 == 3) with h0 | h0
  · exact (retP (TabOk.none _ _) (pOperC_ok 4) (fuel := 1000) O1 [true] (v := .int .i64 (15)) [(getZ v 0 7 == 3, true), (pre (fieldC v 0 7), true), (pre (fieldC v 12 3 && getZ v 12 3 == 4), true)] (by kernel_rfl) (by simp [pre, fieldC_lit hv, hf3, hv, hv, h0]) w hG).of_eq (by first | (simp only [operZ, pre, fieldC_lit hv, hf3, hv, hv, h0]; rfl) | simp [operZ, pre, fieldC_lit hv, hf3, hv, hv, h0])
  · rcases Bool.eq_false_or_eq_true (getZ v 0 7 == 15) with h1 | h1
    · exact (retP (TabOk.none _ _) (pOperC_ok 4) (fuel := 1000) O1 [false, true] (v := .int .i64 (63)) [(getZ v 0 7 == 15, true), (getZ v 0 7 == 3, false), (pre (fieldC v 0 7), true), (pre (fieldC v 12 3 && getZ v 12 3 == 4), true)] (by kernel_rfl) (by simp [pre, fieldC_lit hv, hf3, hv, hv, h0, h1]) w hG).of_eq (by first | (simp only [operZ, pre, fieldC_lit hv, hf3, hv, hv, h0, h1]; rfl) | simp [operZ, pre, fieldC_lit hv, hf3, hv, hv, h0, h1])
    · rcases Bool.eq_false_or_eq_true (getZ v 0 7 == 19) with h2 | h2
      · exact (retP (TabOk.none _ _) (pOperC_ok 4) (fuel := 1000) O1 [false, false, true] (v := .int .i64 (immediateZ v 25 30)) [(pre (w32B v), true), (getZ v 0 7 == 19, true), (getZ v 0 7 == 15, false), (getZ v 0 7 == 3, false), (pre (fieldC v 0 7), true), (pre (fieldC v 12 3 && getZ v 12 3 == 4), true)] (by kernel_rfl) (by simp [pre, fieldC_lit hv, hf3, hv, hv, h0, h1, h2]) w hG).of_eq (by first | (simp only [operZ, pre, fieldC_lit hv, hf3, hv, hv, h0, h1, h2]; rfl) | simp [operZ, pre, fieldC_lit hv, hf3, hv, hv, h0, h1, h2])
      · rcases Bool.eq_false_or_eq_true (getZ v 0 7 == 23) with h3 | h3
        · exact (retP (TabOk.none _ _) (pOperC_ok 4) (fuel := 1000) O1 [false, false, false, true] (v := .int .i64 (2)) [(getZ v 0 7 == 23, true), (getZ v 0 7 == 19, false), (getZ v 0 7 == 15, false), (getZ v 0 7 == 3, false), (pre (fieldC v 0 7), true), (pre (fieldC v 12 3 && getZ v 12 3 == 4), true)] (by kernel_rfl) (by simp [pre, fieldC_lit hv, hf3, hv, hv, h0, h1, h2, h3]) w hG).of_eq (by first | (simp only [operZ, pre, fieldC_lit hv, hf3, hv, hv, h0, h1, h2, h3]; rfl) | simp [operZ, pre, fieldC_lit hv, hf3, hv, hv, h0, h1, h2, h3])
        · rcases Bool.eq_false_or_eq_true (getZ v 0 7 == 27) with h4 | h4
          · exact (retP (TabOk.none _ _) (pOperC_ok 4) (fuel := 1000) O1 [false, false, false, false, true] (v := .int .i64 (immediateZ v 0 34)) [(pre (w32B v), true), (getZ v 0 7 == 27, true), (getZ v 0 7 == 23, false), (getZ v 0 7 == 19, false), (getZ v 0 7 == 15, false), (getZ v 0 7 == 3, false), (pre (fieldC v 0 7), true), (pre (fieldC v 12 3 && getZ v 12 3 == 4), true)] (by kernel_rfl) (by simp [pre, fieldC_lit hv, hf3, hv, hv, h0, h1, h2, h3, h4]) w hG).of_eq (by first | (simp only [operZ, pre, fieldC_lit hv, hf3, hv, hv, h0, h1, h2, h3, h4]; rfl) | simp [operZ, pre, fieldC_lit hv, hf3, hv, hv, h0, h1, h2, h3, h4])
          · rcases Bool.eq_false_or_eq_true (getZ v 0 7 == 35) with h5 | h5
            · exact (retP (TabOk.none _ _) (pOperC_ok 4) (fuel := 1000) O1 [false, false, false, false, false, true] (v := .int .i64 (0)) [(getZ v 0 7 == 35, true), (getZ v 0 7 == 27, false), (getZ v 0 7 == 23, false), (getZ v 0 7 == 19, false), (getZ v 0 7 == 15, false), (getZ v 0 7 == 3, false), (pre (fieldC v 0 7), true), (pre (fieldC v 12 3 && getZ v 12 3 == 4), true)] (by kernel_rfl) (by simp [pre, fieldC_lit hv, hf3, hv, hv, h0, h1, h2, h3, h4, h5]) w hG).of_eq (by first | (simp only [operZ, pre, fieldC_lit hv, hf3, hv, hv, h0, h1, h2, h3, h4, h5]; rfl) | simp [operZ, pre, fieldC_lit hv, hf3, hv, hv, h0, h1, h2, h3, h4, h5])
            · rcases Bool.eq_false_or_eq_true (getZ v 0 7 == 47) with h6 | h6
              · exact (retP (TabOk.none _ _) (pOperC_ok 4) (fuel := 1000) O1 [false, false, false, false, false, false, true] (v := .int .i64 (amoZ v)) [(pre (w32B v), true), (getZ v 0 7 == 47, true), (getZ v 0 7 == 35, false), (getZ v 0 7 == 27, false), (getZ v 0 7 == 23, false), (getZ v 0 7 == 19, false), (getZ v 0 7 == 15, false), (getZ v 0 7 == 3, false), (pre (fieldC v 0 7), true), (pre (fieldC v 12 3 && getZ v 12 3 == 4), true)] (by kernel_rfl) (by simp [pre, fieldC_lit hv, hf3, hv, hv, h0, h1, h2, h3, h4, h5, h6]) w hG).of_eq (by first | (simp only [operZ, pre, fieldC_lit hv, hf3, hv, hv, h0, h1, h2, h3, h4, h5, h6]; rfl) | simp [operZ, pre, fieldC_lit hv, hf3, hv, hv, h0, h1, h2, h3, h4, h5, h6])
              · rcases Bool.eq_false_or_eq_true (getZ v 0 7 == 51) with h7 | h7
                · exact (retP (TabOk.none _ _) (pOperC_ok 4) (fuel := 1000) O1 [false, false, false, false, false, false, false, true] (v := .int .i64 (byF7Z v 40 54 0)) [(pre (w32B v), true), (getZ v 0 7 == 51, true), (getZ v 0 7 == 47, false), (getZ v 0 7 == 35, false), (getZ v 0 7 == 27, false), (getZ v 0 7 == 23, false), (getZ v 0 7 == 19, false), (getZ v 0 7 == 15, false), (getZ v 0 7 == 3, false), (pre (fieldC v 0 7), true), (pre (fieldC v 12 3 && getZ v 12 3 == 4), true)] (by kernel_rfl) (by simp [pre, fieldC_lit hv, hf3, hv, hv, h0, h1, h2, h3, h4, h5, h6, h7]) w hG).of_eq (by first | (simp only [operZ, pre, fieldC_lit hv, hf3, hv, hv, h0, h1, h2, h3, h4, h5, h6, h7]; rfl) | simp [operZ, pre, fieldC_lit hv, hf3, hv, hv, h0, h1, h2, h3, h4, h5, h6, h7])
                · rcases Bool.eq_false_or_eq_true (getZ v 0 7 == 55) with h8 | h8
                  · exact (retP (TabOk.none _ _) (pOperC_ok 4) (fuel := 1000) O1 [false, false, false, false, false, false, false, false, true] (v := .int .i64 (1)) [(getZ v 0 7 == 55, true), (getZ v 0 7 == 51, false), (getZ v 0 7 == 47, false), (getZ v 0 7 == 35, false), (getZ v 0 7 == 27, false), (getZ v 0 7 == 23, false), (getZ v 0 7 == 19, false), (getZ v 0 7 == 15, false), (getZ v 0 7 == 3, false), (pre (fieldC v 0 7), true), (pre (fieldC v 12 3 && getZ v 12 3 == 4), true)] (by kernel_rfl) (by simp [pre, fieldC_lit hv, hf3, hv, hv, h0, h1, h2, h3, h4, h5, h6, h7, h8]) w hG).of_eq (by first | (simp only [operZ, pre, fieldC_lit hv, hf3, hv, hv, h0, h1, h2, h3, h4, h5, h6, h7, h8]; rfl) | simp [operZ, pre, fieldC_lit hv, hf3, hv, hv, h0, h1, h2, h3, h4, h5, h6, h7, h8])
                  · rcases Bool.eq_false_or_eq_true (getZ v 0 7 == 59) with h9 | h9
                    · exact (retP (TabOk.none _ _) (pOperC_ok 4) (fuel := 1000) O1 [false, false, false, false, false, false, false, false, false, true] (v := .int .i64 (byF7Z v 0 59 0)) [(pre (w32B v), true), (getZ v 0 7 == 59, true), (getZ v 0 7 == 55, false), (getZ v 0 7 == 51, false), (getZ v 0 7 == 47, false), (getZ v 0 7 == 35, false), (getZ v 0 7 == 27, false), (getZ v 0 7 == 23, false), (getZ v 0 7 == 19, false), (getZ v 0 7 == 15, false), (getZ v 0 7 == 3, false), (pre (fieldC v 0 7), true), (pre (fieldC v 12 3 && getZ v 12 3 == 4), true)] (by kernel_rfl) (by simp [pre, fieldC_lit hv, hf3, hv, hv, h0, h1, h2, h3, h4, h5, h6, h7, h8, h9]) w hG).of_eq (by first | (simp only [operZ, pre, fieldC_lit hv, hf3, hv, hv, h0, h1, h2, h3, h4, h5, h6, h7, h8, h9]; rfl) | simp [operZ, pre, fieldC_lit hv, hf3, hv, hv, h0, h1, h2, h3, h4, h5, h6, h7, h8, h9])
                    · rcases Bool.eq_false_or_eq_true (getZ v 0 7 == 99) with h10 | h10
                      · exact (retP (TabOk.none _ _) (pOperC_ok 4) (fuel := 1000) O1 [false, false, false, false, false, false, false, false, false, false, true] (v := .int .i64 (7)) [(getZ v 0 7 == 99, true), (getZ v 0 7 == 59, false), (getZ v 0 7 == 55, false), (getZ v 0 7 == 51, false), (getZ v 0 7 == 47, false), (getZ v 0 7 == 35, false), (getZ v 0 7 == 27, false), (getZ v 0 7 == 23, false), (getZ v 0 7 == 19, false), (getZ v 0 7 == 15, false), (getZ v 0 7 == 3, false), (pre (fieldC v 0 7), true), (pre (fieldC v 12 3 && getZ v 12 3 == 4), true)] (by kernel_rfl) (by simp [pre, fieldC_lit hv, hf3, hv, hv, h0, h1, h2, h3, h4, h5, h6, h7, h8, h9, h10]) w hG).of_eq (by first | (simp only [operZ, pre, fieldC_lit hv, hf3, hv, hv, h0, h1, h2, h3, h4, h5, h6, h7, h8, h9, h10]; rfl) | simp [operZ, pre, fieldC_lit hv, hf3, hv, hv, h0, h1, h2, h3, h4, h5, h6, h7, h8, h9, h10])
                      · rcases Bool.eq_false_or_eq_true (getZ v 0 7 == 103) with h11 | h11
                        · exact (retP (TabOk.none _ _) (pOperC_ok 4) (fuel := 1000) O1 [false, false, false, false, false, false, false, false, false, false, false, true] (v := .int .i64 (4)) [(getZ v 0 7 == 103, true), (getZ v 0 7 == 99, false), (getZ v 0 7 == 59, false), (getZ v 0 7 == 55, false), (getZ v 0 7 == 51, false), (getZ v 0 7 == 47, false), (getZ v 0 7 == 35, false), (getZ v 0 7 == 27, false), (getZ v 0 7 == 23, false), (getZ v 0 7 == 19, false), (getZ v 0 7 == 15, false), (getZ v 0 7 == 3, false), (pre (fieldC v 0 7), true), (pre (fieldC v 12 3 && getZ v 12 3 == 4), true)] (by kernel_rfl) (by simp [pre, fieldC_lit hv, hf3, hv, hv, h0, h1, h2, h3, h4, h5, h6, h7, h8, h9, h10, h11]) w hG).of_eq (by first | (simp only [operZ, pre, fieldC_lit hv, hf3, hv, hv, h0, h1, h2, h3, h4, h5, h6, h7, h8, h9, h10, h11]; rfl) | simp [operZ, pre, fieldC_lit hv, hf3, hv, hv, h0, h1, h2, h3, h4, h5, h6, h7, h8, h9, h10, h11])
                        · rcases Bool.eq_false_or_eq_true (getZ v 0 7 == 111) with h12 | h12
                          · exact (retP (TabOk.none _ _) (pOperC_ok 4) (fuel := 1000) O1 [false, false, false, false, false, false, false, false, false, false, false, false, true] (v := .int .i64 (3)) [(getZ v 0 7 == 111, true), (getZ v 0 7 == 103, false), (getZ v 0 7 == 99, false), (getZ v 0 7 == 59, false), (getZ v 0 7 == 55, false), (getZ v 0 7 == 51, false), (getZ v 0 7 == 47, false), (getZ v 0 7 == 35, false), (getZ v 0 7 == 27, false), (getZ v 0 7 == 23, false), (getZ v 0 7 == 19, false), (getZ v 0 7 == 15, false), (getZ v 0 7 == 3, false), (pre (fieldC v 0 7), true), (pre (fieldC v 12 3 && getZ v 12 3 == 4), true)] (by kernel_rfl) (by simp [pre, fieldC_lit hv, hf3, hv, hv, h0, h1, h2, h3, h4, h5, h6, h7, h8, h9, h10, h11, h12]) w hG).of_eq (by first | (simp only [operZ, pre, fieldC_lit hv, hf3, hv, hv, h0, h1, h2, h3, h4, h5, h6, h7, h8, h9, h10, h11, h12]; rfl) | simp [operZ, pre, fieldC_lit hv, hf3, hv, hv, h0, h1, h2, h3, h4, h5, h6, h7, h8, h9, h10, h11, h12])
                          · rcases Bool.eq_false_or_eq_true (getZ v 0 7 == 115) with h13 | h13
                            · exact (retP (TabOk.none _ _) (pOperC_ok 4) (fuel := 1000) O1 [false, false, false, false, false, false, false, false, false, false, false, false, false, true] (v := .int .i64 (systemZ v)) [(pre (w32B v), true), (getZ v 0 7 == 115, true), (getZ v 0 7 == 111, false), (getZ v 0 7 == 103, false), (getZ v 0 7 == 99, false), (getZ v 0 7 == 59, false), (getZ v 0 7 == 55, false), (getZ v 0 7 == 51, false), (getZ v 0 7 == 47, false), (getZ v 0 7 == 35, false), (getZ v 0 7 == 27, false), (getZ v 0 7 == 23, false), (getZ v 0 7 == 19, false), (getZ v 0 7 == 15, false), (getZ v 0 7 == 3, false), (pre (fieldC v 0 7), true), (pre (fieldC v 12 3 && getZ v 12 3 == 4), true)] (by kernel_rfl) (by simp [pre, fieldC_lit hv, hf3, hv, hv, h0, h1, h2, h3, h4, h5, h6, h7, h8, h9, h10, h11, h12, h13]) w hG).of_eq (by first | (simp only [operZ, pre, fieldC_lit hv, hf3, hv, hv, h0, h1, h2, h3, h4, h5, h6, h7, h8, h9, h10, h11, h12, h13]; rfl) | simp [operZ, pre, fieldC_lit hv, hf3, hv, hv, h0, h1, h2, h3, h4, h5, h6, h7, h8, h9, h10, h11, h12, h13])
                            · exact (retP (TabOk.none _ _) (pOperC_ok 4) (fuel := 1000) O1 [false, false, false, false, false, false, false, false, false, false, false, false, false, false] (v := .int .i64 (0)) [(getZ v 0 7 == 115, false), (getZ v 0 7 == 111, false), (getZ v 0 7 == 103, false), (getZ v 0 7 == 99, false), (getZ v 0 7 == 59, false), (getZ v 0 7 == 55, false), (getZ v 0 7 == 51, false), (getZ v 0 7 == 47, false), (getZ v 0 7 == 35, false), (getZ v 0 7 == 27, false), (getZ v 0 7 == 23, false), (getZ v 0 7 == 19, false), (getZ v 0 7 == 15, false), (getZ v 0 7 == 3, false), (pre (fieldC v 0 7), true), (pre (fieldC v 12 3 && getZ v 12 3 == 4), true)] (by kernel_rfl) (by simp [pre, fieldC_lit hv, hf3, hv, hv, h0, h1, h2, h3, h4, h5, h6, h7, h8, h9, h10, h11, h12, h13]) w hG).of_eq (by first | (simp only [operZ, pre, fieldC_lit hv, hf3, hv, hv, h0, h1, h2, h3, h4, h5, h6, h7, h8, h9, h10, h11, h12, h13]; rfl) | simp [operZ, pre, fieldC_lit hv, hf3, hv, hv, h0, h1, h2, h3, h4, h5, h6, h7, h8, h9, h10, h11, h12, h13])
theorem operation_5 (v : Int) (hv : w32B v = true) (hf3 : getZ v 12 3 = 5) (w : World) (hG : GlobOk decGl w) : Ret Tryd.prog 62 #[.int .u32 v] (.int .i64 (operZ 5 v)) w := by
  rcases Bool.eq_false_or_eq_true (getZ v 0 7 == 3) with h0 | h0
  · exact (retP (TabOk.none _ _) (pOperC_ok 5) (fuel := 1000) O1 [true] (v := .int .i64 (16)) [(getZ v 0 7 == 3, true), (pre (fieldC v 0 7), true), (pre (fieldC v 12 3 && getZ v 12 3 == 5), true)] (by kernel_rfl) (by simp [pre, fieldC_lit hv, hf3, hv, hv, h0]) w hG).of_eq (by first | (simp only [operZ, pre, fieldC_lit hv, hf3, hv, hv, h0]; rfl) | simp [operZ, pre, fieldC_lit hv, hf3, hv, hv, h0])
  · rcases Bool.eq_false_or_eq_true (getZ v 0 7 == 15) with h1 | h1
    · exact (retP (TabOk.none _ _) (pOperC_ok 5) (fuel := 1000) O1 [false, true] (v := .int .i64 (63)) [(getZ v 0 7 == 15, true), (getZ v 0 7 == 3, false), (pre (fieldC v 0 7), true), (pre (fieldC v 12 3 && getZ v 12 3 == 5), true)] (by kernel_rfl) (by simp [pre, fieldC_lit hv, hf3, hv, hv, h0, h1]) w hG).of_eq (by first | (simp only [operZ, pre, fieldC_lit hv, hf3, hv, hv, h0, h1]; rfl) | simp [operZ, pre, fieldC_lit hv, hf3, hv, hv, h0, h1])
    · rcases Bool.eq_false_or_eq_true (getZ v 0 7 == 19) with h2 | h2
      · exact (retP (TabOk.none _ _) (pOperC_ok 5) (fuel := 1000) O1 [false, false, true] (v := .int .i64 (immediateZ v 29 30)) [(pre (w32B v), true), (getZ v 0 7 == 19, true), (getZ v 0 7 == 15, false), (getZ v 0 7 == 3, false), (pre (fieldC v 0 7), true), (pre (fieldC v 12 3 && getZ v 12 3 == 5), true)] (by kernel_rfl) (by simp [pre, fieldC_lit hv, hf3, hv, hv, h0, h1, h2]) w hG).of_eq (by first | (simp only [operZ, pre, fieldC_lit hv, hf3, hv, hv, h0, h1, h2]; rfl) | simp [operZ, pre, fieldC_lit hv, hf3, hv, hv, h0, h1, h2])
      · rcases Bool.eq_false_or_eq_true (getZ v 0 7 == 23) with h3 | h3
        · exact (retP (TabOk.none _ _) (pOperC_ok 5) (fuel := 1000) O1 [false, false, false, true] (v := .int .i64 (2)) [(getZ v 0 7 == 23, true), (getZ v 0 7 == 19, false), (getZ v 0 7 == 15, false), (getZ v 0 7 == 3, false), (pre (fieldC v 0 7), true), (pre (fieldC v 12 3 && getZ v 12 3 == 5), true)] (by kernel_rfl) (by simp [pre, fieldC_lit hv, hf3, hv, hv, h0, h1, h2, h3]) w hG).of_eq (by first | (simp only [operZ, pre, fieldC_lit hv, hf3, hv, hv, h0, h1, h2, h3]; rfl) | simp [operZ, pre, fieldC_lit hv, hf3, hv, hv, h0, h1, h2, h3])
        · rcases Bool.eq_false_or_eq_true (getZ v 0 7 == 27) with h4 | h4
          · exact (retP (TabOk.none _ _) (pOperC_ok 5) (fuel := 1000) O1 [false, false, false, false, true] (v := .int .i64 (immediateZ v 33 34)) [(pre (w32B v), true), (getZ v 0 7 == 27, true), (getZ v 0 7 == 23, false), (getZ v 0 7 == 19, false), (getZ v 0 7 == 15, false), (getZ v 0 7 == 3, false), (pre (fieldC v 0 7), true), (pre (fieldC v 12 3 && getZ v 12 3 == 5), true)] (by kernel_rfl) (by simp [pre, fieldC_lit hv, hf3, hv, hv, h0, h1, h2, h3, h4]) w hG).of_eq (by first | (simp only [operZ, pre, fieldC_lit hv, hf3, hv, hv, h0, h1, h2, h3, h4]; rfl) | simp [operZ, pre, fieldC_lit hv, hf3, hv, hv, h0, h1, h2, h3, h4])
          · rcases Bool.eq_false_or_eq_true (getZ v 0 7 == 35) with h5 | h5
            · exact (retP (TabOk.none _ _) (pOperC_ok 5) (fuel := 1000) O1 [false, false, false, false, false, true] (v := .int .i64 (0)) [(getZ v 0 7 == 35, true), (getZ v 0 7 == 27, false), (getZ v 0 7 == 23, false), (getZ v 0 7 == 19, false), (getZ v 0 7 == 15, false), (getZ v 0 7 == 3, false), (pre (fieldC v 0 7), true), (pre (fieldC v 12 3 && getZ v 12 3 == 5), true)] (by kernel_rfl) (by simp [pre, fieldC_lit hv, hf3, hv, hv, h0, h1, h2, h3, h4, h5]) w hG).of_eq (by first | (simp only [operZ, pre, fieldC_lit hv, hf3, hv, hv, h0, h1, h2, h3, h4, h5]; rfl) | simp [operZ, pre, fieldC_lit hv, hf3, hv, hv, h0, h1, h2, h3, h4, h5])
            · rcases Bool.eq_false_or_eq_true (getZ v 0 7 == 47) with h6 | h6
              · exact (retP (TabOk.none _ _) (pOperC_ok 5) (fuel := 1000) O1 [false, false, false, false, false, false, true] (v := .int .i64 (amoZ v)) [(pre (w32B v), true), (getZ v 0 7 == 47, true), (getZ v 0 7 == 35, false), (getZ v 0 7 == 27, false), (getZ v 0 7 == 23, false), (getZ v 0 7 == 19, false), (getZ v 0 7 == 15, false), (getZ v 0 7 == 3, false), (pre (fieldC v 0 7), true), (pre (fieldC v 12 3 && getZ v 12 3 == 5), true)] (by kernel_rfl) (by simp [pre, fieldC_lit hv, hf3, hv, hv, h0, h1, h2, h3, h4, h5, h6]) w hG).of_eq (by first | (simp only [operZ, pre, fieldC_lit hv, hf3, hv, hv, h0, h1, h2, h3, h4, h5, h6]; rfl) | simp [operZ, pre, fieldC_lit hv, hf3, hv, hv, h0, h1, h2, h3, h4, h5, h6])
              · rcases Bool.eq_false_or_eq_true (getZ v 0 7 == 51) with h7 | h7
                · exact (retP (TabOk.none _ _) (pOperC_ok 5) (fuel := 1000) O1 [false, false, false, false, false, false, false, true] (v := .int .i64 (byF7Z v 41 55 42)) [(pre (w32B v), true), (getZ v 0 7 == 51, true), (getZ v 0 7 == 47, false), (getZ v 0 7 == 35, false), (getZ v 0 7 == 27, false), (getZ v 0 7 == 23, false), (getZ v 0 7 == 19, false), (getZ v 0 7 == 15, false), (getZ v 0 7 == 3, false), (pre (fieldC v 0 7), true), (pre (fieldC v 12 3 && getZ v 12 3 == 5), true)] (by kernel_rfl) (by simp [pre, fieldC_lit hv, hf3, hv, hv, h0, h1, h2, h3, h4, h5, h6, h7]) w hG).of_eq (by first | (simp only [operZ, pre, fieldC_lit hv, hf3, hv, hv, h0, h1, h2, h3, h4, h5, h6, h7]; rfl) | simp [operZ, pre, fieldC_lit hv, hf3, hv, hv, h0, h1, h2, h3, h4, h5, h6, h7])
                · rcases Bool.eq_false_or_eq_true (getZ v 0 7 == 55) with h8 | h8
                  · exact (retP (TabOk.none _ _) (pOperC_ok 5) (fuel := 1000) O1 [false, false, false, false, false, false, false, false, true] (v := .int .i64 (1)) [(getZ v 0 7 == 55, true), (getZ v 0 7 == 51, false), (getZ v 0 7 == 47, false), (getZ v 0 7 == 35, false), (getZ v 0 7 == 27, false), (getZ v 0 7 == 23, false), (getZ v 0 7 == 19, false), (getZ v 0 7 == 15, false), (getZ v 0 7 == 3, false), (pre (fieldC v 0 7), true), (pre (fieldC v 12 3 && getZ v 12 3 == 5), true)] (by kernel_rfl) (by simp [pre, fieldC_lit hv, hf3, hv, hv, h0, h1, h2, h3, h4, h5, h6, h7, h8]) w hG).of_eq (by first | (simp only [operZ, pre, fieldC_lit hv, hf3, hv, hv, h0, h1, h2, h3, h4, h5, h6, h7, h8]; rfl) | simp [operZ, pre, fieldC_lit hv, hf3, hv, hv, h0, h1, h2, h3, h4, h5, h6, h7, h8])
                  · rcases Bool.eq_false_or_eq_true (getZ v 0 7 == 59) with h9 | h9
                    · exact (retP (TabOk.none _ _) (pOperC_ok 5) (fuel := 1000) O1 [false, false, false, false, false, false, false, false, false, true] (v := .int .i64 (byF7Z v 48 60 49)) [(pre (w32B v), true), (getZ v 0 7 == 59, true), (getZ v 0 7 == 55, false), (getZ v 0 7 == 51, false), (getZ v 0 7 == 47, false), (getZ v 0 7 == 35, false), (getZ v 0 7 == 27, false), (getZ v 0 7 == 23, false), (getZ v 0 7 == 19, false), (getZ v 0 7 == 15, false), (getZ v 0 7 == 3, false), (pre (fieldC v 0 7), true), (pre (fieldC v 12 3 && getZ v 12 3 == 5), true)] (by kernel_rfl) (by simp [pre, fieldC_lit hv, hf3, hv, hv, h0, h1, h2, h3, h4, h5, h6, h7, h8, h9]) w hG).of_eq (by first | (simp only [operZ, pre, fieldC_lit hv, hf3, hv, hv, h0, h1, h2, h3, h4, h5, h6, h7, h8, h9]; rfl) | simp [operZ, pre, fieldC_lit hv, hf3, hv, hv, h0, h1, h2, h3, h4, h5, h6, h7, h8, h9])
                    · rcases Bool.eq_false_or_eq_true (getZ v 0 7 == 99) with h10 | h10
                      · exact (retP (TabOk.none _ _) (pOperC_ok 5) (fuel := 1000) O1 [false, false, false, false, false, false, false, false, false, false, true] (v := .int .i64 (8)) [(getZ v 0 7 == 99, true), (getZ v 0 7 == 59, false), (getZ v 0 7 == 55, false), (getZ v 0 7 == 51, false), (getZ v 0 7 == 47, false), (getZ v 0 7 == 35, false), (getZ v 0 7 == 27, false), (getZ v 0 7 == 23, false), (getZ v 0 7 == 19, false), (getZ v 0 7 == 15, false), (getZ v 0 7 == 3, false), (pre (fieldC v 0 7), true), (pre (fieldC v 12 3 && getZ v 12 3 == 5), true)] (by kernel_rfl) (by simp [pre, fieldC_lit hv, hf3, hv, hv, h0, h1, h2, h3, h4, h5, h6, h7, h8, h9, h10]) w hG).of_eq (by first | (simp only [operZ, pre, fieldC_lit hv, hf3, hv, hv, h0, h1, h2, h3, h4, h5, h6, h7, h8, h9, h10]; rfl) | simp [operZ, pre, fieldC_lit hv, hf3, hv, hv, h0, h1, h2, h3, h4, h5, h6, h7, h8, h9, h10])
                      · rcases Bool.eq_false_or_eq_true (getZ v 0 7 == 103) with h11 | h11
                        · exact (retP (TabOk.none _ _) (pOperC_ok 5) (fuel := 1000) O1 [false, false, false, false, false, false, false, false, false, false, false, true] (v := .int .i64 (4)) [(getZ v 0 7 == 103, true), (getZ v 0 7 == 99, false), (getZ v 0 7 == 59, false), (getZ v 0 7 == 55, false), (getZ v 0 7 == 51, false), (getZ v 0 7 == 47, false), (getZ v 0 7 == 35, false), (getZ v 0 7 == 27, false), (getZ v 0 7 == 23, false), (getZ v 0 7 == 19, false), (getZ v 0 7 == 15, false), (getZ v 0 7 == 3, false), (pre (fieldC v 0 7), true), (pre (fieldC v 12 3 && getZ v 12 3 == 5), true)] (by kernel_rfl) (by simp [pre, fieldC_lit hv, hf3, hv, hv, h0, h1, h2, h3, h4, h5, h6, h7, h8, h9, h10, h11]) w hG).of_eq (by first | (simp only [operZ, pre, fieldC_lit hv, hf3, hv, hv, h0, h1, h2, h3, h4, h5, h6, h7, h8, h9, h10, h11]; rfl) | simp [operZ, pre, fieldC_lit hv, hf3, hv, hv, h0, h1, h2, h3, h4, h5, h6, h7, h8, h9, h10, h11])
                        · rcases Bool.eq_false_or_eq_true (getZ v 0 7 == 111) with h12 | h12
                          · exact (retP (TabOk.none _ _) (pOperC_ok 5) (fuel := 1000) O1 [false, false, false, false, false, false, false, false, false, false, false, false, true] (v := .int .i64 (3)) [(getZ v 0 7 == 111, true), (getZ v 0 7 == 103, false), (getZ v 0 7 == 99, false), (getZ v 0 7 == 59, false), (getZ v 0 7 == 55, false), (getZ v 0 7 == 51, false), (getZ v 0 7 == 47, false), (getZ v 0 7 == 35, false), (getZ v 0 7 == 27, false), (getZ v 0 7 == 23, false), (getZ v 0 7 == 19, false), (getZ v 0 7 == 15, false), (getZ v 0 7 == 3, false), (pre (fieldC v 0 7), true), (pre (fieldC v 12 3 && getZ v 12 3 == 5), true)] (by kernel_rfl) (by simp [pre, fieldC_lit hv, hf3, hv, hv, h0, h1, h2, h3, h4, h5, h6, h7, h8, h9, h10, h11, h12]) w hG).of_eq (by first | (simp only [operZ, pre, fieldC_lit hv, hf3, hv, hv, h0, h1, h2, h3, h4, h5, h6, h7, h8, h9, h10, h11, h12]; rfl) | simp [operZ, pre, fieldC_lit hv, hf3, hv, hv, h0, h1, h2, h3, h4, h5, h6, h7, h8, h9, h10, h11, h12])
                          · rcases Bool.eq_false_or_eq_true (getZ v 0 7 == 115) with h13 | h13
                            · exact (retP (TabOk.none _ _) (pOperC_ok 5) (fuel := 1000) O1 [false, false, false, false, false, false, false, false, false, false, false, false, false, true] (v := .int .i64 (systemZ v)) [(pre (w32B v), true), (getZ v 0 7 == 115, true), (getZ v 0 7 == 111, false), (getZ v 0 7 == 103, false), (getZ v 0 7 == 99, false), (getZ v 0 7 == 59, false), (getZ v 0 7 == 55, false), (getZ v 0 7 == 51, false), (getZ v 0 7 == 47, false), (getZ v 0 7 == 35, false), (getZ v 0 7 == 27, false), (getZ v 0 7 == 23, false), (getZ v 0 7 == 19, false), (getZ v 0 7 == 15, false), (getZ v 0 7 == 3, false), (pre (fieldC v 0 7), true), (pre (fieldC v 12 3 && getZ v 12 3 == 5), true)] (by kernel_rfl) (by simp [pre, fieldC_lit hv, hf3, hv, hv, h0, h1, h2, h3, h4, h5, h6, h7, h8, h9, h10, h11, h12, h13]) w hG).of_eq (by first | (simp only [operZ, pre, fieldC_lit hv, hf3, hv, hv, h0, h1, h2, h3, h4, h5, h6, h7, h8, h9, h10, h11, h12, h13]; rfl) | simp [operZ, pre, fieldC_lit hv, hf3, hv, hv, h0, h1, h2, h3, h4, h5, h6, h7, h8, h9, h10, h11, h12, h13])
                            · exact (retP (TabOk.none _ _) (pOperC_ok 5) (fuel := 1000) O1 [false, false, false, false, false, false, false, false, false, false, false, false, false, false] (v := .int .i64 (0)) [(getZ v 0 7 == 115, false), (getZ v 0 7 == 111, false), (getZ v 0 7 == 103, false), (getZ v 0 7 == 99, false), (getZ v 0 7 == 59, false), (getZ v 0 7 == 55, false), (getZ v 0 7 == 51, false), (getZ v 0 7 == 47, false), (getZ v 0 7 == 35, false), (getZ v 0 7 == 27, false), (getZ v 0 7 == 23, false), (getZ v 0 7 == 19, false), (getZ v 0 7 == 15, false), (getZ v 0 7 == 3, false), (pre (fieldC v 0 7), true), (pre (fieldC v 12 3 && getZ v 12 3 == 5), true)] (by kernel_rfl) (by simp [pre, fieldC_lit hv, hf3, hv, hv, h0, h1, h2, h3, h4, h5, h6, h7, h8, h9, h10, h11, h12, h13]) w hG).of_eq (by first | (simp only [operZ, pre, fieldC_lit hv, hf3, hv, hv, h0, h1, h2, h3, h4, h5, h6, h7, h8, h9, h10, h11, h12, h13]; rfl) | simp [operZ, pre, fieldC_lit hv, hf3, hv, hv, h0, h1, h2, h3, h4, h5, h6, h7, h8, h9, h10, h11, h12, h13])
theorem operation_6 (v : Int) (hv : w32B v = true) (hf3 : getZ v 12 3 = 6) (w : World) (hG : GlobOk decGl w) : Ret Tryd.prog 62 #[.int .u32 v] (.int .i64 (operZ 6 v)) w := by
  rcases Bool.eq_false_or_eq_true (getZ v 0 7 == 3) with h0 | h0
  · exact (retP (TabOk.none _ _) (pOperC_ok 6) (fuel := 1000) O1 [true] (v := .int .i64 (17)) [(getZ v 0 7 == 3, true), (pre (fieldC v 0 7), true), (pre (fieldC v 12 3 && getZ v 12 3 == 6), true)] (by kernel_rfl) (by simp [pre, fieldC_lit hv, hf3, hv, hv, h0]) w hG).of_eq (by first | (simp only [operZ, pre, fieldC_lit hv, hf3, hv, hv, h0]; rfl) | simp [operZ, pre, fieldC_lit hv, hf3, hv, hv, h0])
  · rcases Bool.eq_false_or_eq_true (getZ v 0 7 == 15) with h1 | h1
    · exact (retP (TabOk.none _ _) (pOperC_ok 6) (fuel := 1000) O1 [false, true] (v := .int .i64 (63)) [(getZ v 0 7 == 15, true), (getZ v 0 7 == 3, false), (pre (fieldC v 0 7), true), (pre (fieldC v 12 3 && getZ v 12 3 == 6), true)] (by kernel_rfl) (by simp [pre, fieldC_lit hv, hf3, hv, hv, h0, h1]) w hG).of_eq (by first | (simp only [operZ, pre, fieldC_lit hv, hf3, hv, hv, h0, h1]; rfl) | simp [operZ, pre, fieldC_lit hv, hf3, hv, hv, h0, h1])
    · rcases Bool.eq_false_or_eq_true (getZ v 0 7 == 19) with h2 | h2
      · exact (retP (TabOk.none _ _) (pOperC_ok 6) (fuel := 1000) O1 [false, false, true] (v := .int .i64 (immediateZ v 26 30)) [(pre (w32B v), true), (getZ v 0 7 == 19, true), (getZ v 0 7 == 15, false), (getZ v 0 7 == 3, false), (pre (fieldC v 0 7), true), (pre (fieldC v 12 3 && getZ v 12 3 == 6), true)] (by kernel_rfl) (by simp [pre, fieldC_lit hv, hf3, hv, hv, h0, h1, h2]) w hG).of_eq (by first | (simp only [operZ, pre, fieldC_lit hv, hf3, hv, hv, h0, h1, h2]; rfl) | simp [operZ, pre, fieldC_lit hv, hf3, hv, hv, h0, h1, h2])
      · rcases Bool.eq_false_or_eq_true (getZ v 0 7 == 23) with h3 | h3
        · exact (retP (TabOk.none _ _) (pOperC_ok 6) (fuel := 1000) O1 [false, false, false, true] (v := .int .i64 (2)) [(getZ v 0 7 == 23, true), (getZ v 0 7 == 19, false), (getZ v 0 7 == 15, false), (getZ v 0 7 == 3, false), (pre (fieldC v 0 7), true), (pre (fieldC v 12 3 && getZ v 12 3 == 6), true)] (by kernel_rfl) (by simp [pre, fieldC_lit hv, hf3, hv, hv, h0, h1, h2, h3]) w hG).of_eq (by first | (simp only [operZ, pre, fieldC_lit hv, hf3, hv, hv, h0, h1, h2, h3]; rfl) | simp [operZ, pre, fieldC_lit hv, hf3, hv, hv, h0, h1, h2, h3])
        · rcases Bool.eq_false_or_eq_true (getZ v 0 7 == 27) with h4 | h4
          · exact (retP (TabOk.none _ _) (pOperC_ok 6) (fuel := 1000) O1 [false, false, false, false, true] (v := .int .i64 (immediateZ v 0 34)) [(pre (w32B v), true), (getZ v 0 7 == 27, true), (getZ v 0 7 == 23, false), (getZ v 0 7 == 19, false), (getZ v 0 7 == 15, false), (getZ v 0 7 == 3, false), (pre (fieldC v 0 7), true), (pre (fieldC v 12 3 && getZ v 12 3 == 6), true)] (by kernel_rfl) (by simp [pre, fieldC_lit hv, hf3, hv, hv, h0, h1, h2, h3, h4]) w hG).of_eq (by first | (simp only [operZ, pre, fieldC_lit hv, hf3, hv, hv, h0, h1, h2, h3, h4]; rfl) | simp [operZ, pre, fieldC_lit hv, hf3, hv, hv, h0, h1, h2, h3, h4])
          · rcases Bool.eq_false_or_eq_true (getZ v 0 7 == 35) with h5 | h5
            · exact (retP (TabOk.none _ _) (pOperC_ok 6) (fuel := 1000) O1 [false, false, false, false, false, true] (v := .int .i64 (0)) [(getZ v 0 7 == 35, true), (getZ v 0 7 == 27, false), (getZ v 0 7 == 23, false), (getZ v 0 7 == 19, false), (getZ v 0 7 == 15, false), (getZ v 0 7 == 3, false), (pre (fieldC v 0 7), true), (pre (fieldC v 12 3 && getZ v 12 3 == 6), true)] (by kernel_rfl) (by simp [pre, fieldC_lit hv, hf3, hv, hv, h0, h1, h2, h3, h4, h5]) w hG).of_eq (by first | (simp only [operZ, pre, fieldC_lit hv, hf3, hv, hv, h0, h1, h2, h3, h4, h5]; rfl) | simp [operZ, pre, fieldC_lit hv, hf3, hv, hv, h0, h1, h2, h3, h4, h5])
            · rcases Bool.eq_false_or_eq_true (getZ v 0 7 == 47) with h6 | h6
              · exact (retP (TabOk.none _ _) (pOperC_ok 6) (fuel := 1000) O1 [false, false, false, false, false, false, true] (v := .int .i64 (amoZ v)) [(pre (w32B v), true), (getZ v 0 7 == 47, true), (getZ v 0 7 == 35, false), (getZ v 0 7 == 27, false), (getZ v 0 7 == 23, false), (getZ v 0 7 == 19, false), (getZ v 0 7 == 15, false), (getZ v 0 7 == 3, false), (pre (fieldC v 0 7), true), (pre (fieldC v 12 3 && getZ v 12 3 == 6), true)] (by kernel_rfl) (by simp [pre, fieldC_lit hv, hf3, hv, hv, h0, h1, h2, h3, h4, h5, h6]) w hG).of_eq (by first | (simp only [operZ, pre, fieldC_lit hv, hf3, hv, hv, h0, h1, h2, h3, h4, h5, h6]; rfl) | simp [operZ, pre, fieldC_lit hv, hf3, hv, hv, h0, h1, h2, h3, h4, h5, h6])
              · rcases Bool.eq_false_or_eq_true (getZ v 0 7 == 51) with h7 | h7
                · exact (retP (TabOk.none _ _) (pOperC_ok 6) (fuel := 1000) O1 [false, false, false, false, false, false, false, true] (v := .int .i64 (byF7Z v 43 56 0)) [(pre (w32B v), true), (getZ v 0 7 == 51, true), (getZ v 0 7 == 47, false), (getZ v 0 7 == 35, false), (getZ v 0 7 == 27, false), (getZ v 0 7 == 23, false), (getZ v 0 7 == 19, false), (getZ v 0 7 == 15, false), (getZ v 0 7 == 3, false), (pre (fieldC v 0 7), true), (pre (fieldC v 12 3 && getZ v 12 3 == 6), true)] (by kernel_rfl) (by simp [pre, fieldC_lit hv, hf3, hv, hv, h0, h1, h2, h3, h4, h5, h6, h7]) w hG).of_eq (by first | (simp only [operZ, pre, fieldC_lit hv, hf3, hv, hv, h0, h1, h2, h3, h4, h5, h6, h7]; rfl) | simp [operZ, pre, fieldC_lit hv, hf3, hv, hv, h0, h1, h2, h3, h4, h5, h6, h7])
                · rcases Bool.eq_false_or_eq_true (getZ v 0 7 == 55) with h8 | h8
                  · exact (retP (TabOk.none _ _) (pOperC_ok 6) (fuel := 1000) O1 [false, false, false, false, false, false, false, false, true] (v := .int .i64 (1)) [(getZ v 0 7 == 55, true), (getZ v 0 7 == 51, false), (getZ v 0 7 == 47, false), (getZ v 0 7 == 35, false), (getZ v 0 7 == 27, false), (getZ v 0 7 == 23, false), (getZ v 0 7 == 19, false), (getZ v 0 7 == 15, false), (getZ v 0 7 == 3, false), (pre (fieldC v 0 7), true), (pre (fieldC v 12 3 && getZ v 12 3 == 6), true)] (by kernel_rfl) (by simp [pre, fieldC_lit hv, hf3, hv, hv, h0, h1, h2, h3, h4, h5, h6, h7, h8]) w hG).of_eq (by first | (simp only [operZ, pre, fieldC_lit hv, hf3, hv, hv, h0, h1, h2, h3, h4, h5, h6, h7, h8]; rfl) | simp [operZ, pre, fieldC_lit hv, hf3, hv, hv, h0, h1, h2, h3, h4, h5, h6, h7, h8])
                  · rcases Bool.eq_false_or_eq_true (getZ v 0 7 == 59) with h9 | h9
                    · exact (retP (TabOk.none _ _) (pOperC_ok 6) (fuel := 1000) O1 [false, false, false, false, false, false, false, false, false, true] (v := .int .i64 (byF7Z v 0 61 0)) [(pre (w32B v), true), (getZ v 0 7 == 59, true), (getZ v 0 7 == 55, false), (getZ v 0 7 == 51, false), (getZ v 0 7 == 47, false), (getZ v 0 7 == 35, false), (getZ v 0 7 == 27, false), (getZ v 0 7 == 23, false), (getZ v 0 7 == 19, false), (getZ v 0 7 == 15, false), (getZ v 0 7 == 3, false), (pre (fieldC v 0 7), true), (pre (fieldC v 12 3 && getZ v 12 3 == 6), true)] (by kernel_rfl) (by simp [pre, fieldC_lit hv, hf3, hv, hv, h0, h1, h2, h3, h4, h5, h6, h7, h8, h9]) w hG).of_eq (by first | (simp only [operZ, pre, fieldC_lit hv, hf3, hv, hv, h0, h1, h2, h3, h4, h5, h6, h7, h8, h9]; rfl) | simp [operZ, pre, fieldC_lit hv, hf3, hv, hv, h0, h1, h2, h3, h4, h5, h6, h7, h8, h9])
                    · rcases Bool.eq_false_or_eq_true (getZ v 0 7 == 99) with h10 | h10
                      · exact (retP (TabOk.none _ _) (pOperC_ok 6) (fuel := 1000) O1 [false, false, false, false, false, false, false, false, false, false, true] (v := .int .i64 (9)) [(getZ v 0 7 == 99, true), (getZ v 0 7 == 59, false), (getZ v 0 7 == 55, false), (getZ v 0 7 == 51, false), (getZ v 0 7 == 47, false), (getZ v 0 7 == 35, false), (getZ v 0 7 == 27, false), (getZ v 0 7 == 23, false), (getZ v 0 7 == 19, false), (getZ v 0 7 == 15, false), (getZ v 0 7 == 3, false), (pre (fieldC v 0 7), true), (pre (fieldC v 12 3 && getZ v 12 3 == 6), true)] (by kernel_rfl) (by simp [pre, fieldC_lit hv, hf3, hv, hv, h0, h1, h2, h3, h4, h5, h6, h7, h8, h9, h10]) w hG).of_eq (by first | (simp only [operZ, pre, fieldC_lit hv, hf3, hv, hv, h0, h1, h2, h3, h4, h5, h6, h7, h8, h9, h10]; rfl) | simp [operZ, pre, fieldC_lit hv, hf3, hv, hv, h0, h1, h2, h3, h4, h5, h6, h7, h8, h9, h10])
                      · rcases Bool.eq_false_or_eq_true (getZ v 0 7 == 103) with h11 | h11
                        · exact (retP (TabOk.none _ _) (pOperC_ok 6) (fuel := 1000) O1 [false, false, false, false, false, false, false, false, false, false, false, true] (v := .int .i64 (4)) [(getZ v 0 7 == 103, true), (getZ v 0 7 == 99, false), (getZ v 0 7 == 59, false), (getZ v 0 7 == 55, false), (getZ v 0 7 == 51, false), (getZ v 0 7 == 47, false), (getZ v 0 7 == 35, false), (getZ v 0 7 == 27, false), (getZ v 0 7 == 23, false), (getZ v 0 7 == 19, false), (getZ v 0 7 == 15, false), (getZ v 0 7 == 3, false), (pre (fieldC v 0 7), true), (pre (fieldC v 12 3 && getZ v 12 3 == 6), true)] (by kernel_rfl) (by simp [pre, fieldC_lit hv, hf3, hv, hv, h0, h1, h2, h3, h4, h5, h6, h7, h8, h9, h10, h11]) w hG).of_eq (by first | (simp only [operZ, pre, fieldC_lit hv, hf3, hv, hv, h0, h1, h2, h3, h4, h5, h6, h7, h8, h9, h10, h11]; rfl) | simp [operZ, pre, fieldC_lit hv, hf3, hv, hv, h0, h1, h2, h3, h4, h5, h6, h7, h8, h9, h10, h11])
                        · rcases Bool.eq_false_or_eq_true (getZ v 0 7 == 111) with h12 | h12
                          · exact (retP (TabOk.none _ _) (pOperC_ok 6) (fuel := 1000) O1 [false, false, false, false, false, false, false, false, false, false, false, false, true] (v := .int .i64 (3)) [(getZ v 0 7 == 111, true), (getZ v 0 7 == 103, false), (getZ v 0 7 == 99, false), (getZ v 0 7 == 59, false), (getZ v 0 7 == 55, false), (getZ v 0 7 == 51, false), (getZ v 0 7 == 47, false), (getZ v 0 7 == 35, false), (getZ v 0 7 == 27, false), (getZ v 0 7 == 23, false), (getZ v 0 7 == 19, false), (getZ v 0 7 == 15, false), (getZ v 0 7 == 3, false), (pre (fieldC v 0 7), true), (pre (fieldC v 12 3 && getZ v 12 3 == 6), true)] (by kernel_rfl) (by simp [pre, fieldC_lit hv, hf3, hv, hv, h0, h1, h2, h3, h4, h5, h6, h7, h8, h9, h10, h11, h12]) w hG).of_eq (by first | (simp only [operZ, pre, fieldC_lit hv, hf3, hv, hv, h0, h1, h2, h3, h4, h5, h6, h7, h8, h9, h10, h11, h12]; rfl) | simp [operZ, pre, fieldC_lit hv, hf3, hv, hv, h0, h1, h2, h3, h4, h5, h6, h7, h8, h9, h10, h11, h12])
                          · rcases Bool.eq_false_or_eq_true (getZ v 0 7 == 115) with h13 | h13
                            · exact (retP (TabOk.none _ _) (pOperC_ok 6) (fuel := 1000) O1 [false, false, false, false, false, false, false, false, false, false, false, false, false, true] (v := .int .i64 (systemZ v)) [(pre (w32B v), true), (getZ v 0 7 == 115, true), (getZ v 0 7 == 111, false), (getZ v 0 7 == 103, false), (getZ v 0 7 == 99, false), (getZ v 0 7 == 59, false), (getZ v 0 7 == 55, false), (getZ v 0 7 == 51, false), (getZ v 0 7 == 47, false), (getZ v 0 7 == 35, false), (getZ v 0 7 == 27, false), (getZ v 0 7 == 23, false), (getZ v 0 7 == 19, false), (getZ v 0 7 == 15, false), (getZ v 0 7 == 3, false), (pre (fieldC v 0 7), true), (pre (fieldC v 12 3 && getZ v 12 3 == 6), true)] (by kernel_rfl) (by simp [pre, fieldC_lit hv, hf3, hv, hv, h0, h1, h2, h3, h4, h5, h6, h7, h8, h9, h10, h11, h12, h13]) w hG).of_eq (by first | (simp only [operZ, pre, fieldC_lit hv, hf3, hv, hv, h0, h1, h2, h3, h4, h5, h6, h7, h8, h9, h10, h11, h12, h13]; rfl) | simp [operZ, pre, fieldC_lit hv, hf3, hv, hv, h0, h1, h2, h3, h4, h5, h6, h7, h8, h9, h10, h11, h12, h13])
                            · exact (retP (TabOk.none _ _) (pOperC_ok 6) (fuel := 1000) O1 [false, false, false, false, false, false, false, false, false, false, false, false, false, false] (v := .int .i64 (0)) [(getZ v 0 7 == 115, false), (getZ v 0 7 == 111, false), (getZ v 0 7 == 103, false), (getZ v 0 7 == 99, false), (getZ v 0 7 == 59, false), (getZ v 0 7 == 55, false), (getZ v 0 7 == 51, false), (getZ v 0 7 == 47, false), (getZ v 0 7 == 35, false), (getZ v 0 7 == 27, false), (getZ v 0 7 == 23, false), (getZ v 0 7 == 19, false), (getZ v 0 7 == 15, false), (getZ v 0 7 == 3, false), (pre (fieldC v 0 7), true), (pre (fieldC v 12 3 && getZ v 12 3 == 6), true)] (by kernel_rfl) (by simp [pre, fieldC_lit hv, hf3, hv, hv, h0, h1, h2, h3, h4, h5, h6, h7, h8, h9, h10, h11, h12, h13]) w hG).of_eq (by first | (simp only [operZ, pre, fieldC_lit hv, hf3, hv, hv, h0, h1, h2, h3, h4, h5, h6, h7, h8, h9, h10, h11, h12, h13]; rfl) | simp [operZ, pre, fieldC_lit hv, hf3, hv, hv, h0, h1, h2, h3, h4, h5, h6, h7, h8, h9, h10, h11, h12, h13])
theorem operation_7 (v : Int) (hv : w32B v = true) (hf3 : getZ v 12 3 = 7) (w : World) (hG : GlobOk decGl w) : Ret Tryd.prog 62 #[.int .u32 v] (.int .i64 (operZ 7 v)) w := by
  rcases Bool.eq_false_or_eq_true (getZ v 0 7 == 3) with h0 | h0
  · exact (retP (TabOk.none _ _) (pOperC_ok 7) (fuel := 1000) O1 [true] (v := .int .i64 (0)) [(getZ v 0 7 == 3, true), (pre (fieldC v 0 7), true), (pre (fieldC v 12 3 && getZ v 12 3 == 7), true)] (by kernel_rfl) (by simp [pre, fieldC_lit hv, hf3, hv, hv, h0]) w hG).of_eq (by first | (simp only [operZ, pre, fieldC_lit hv, hf3, hv, hv, h0]; rfl) | simp [operZ, pre, fieldC_lit hv, hf3, hv, hv, h0])
  · rcases Bool.eq_false_or_eq_true (getZ v 0 7 == 15) with h1 | h1
    · exact (retP (TabOk.none _ _) (pOperC_ok 7) (fuel := 1000) O1 [false, true] (v := .int .i64 (63)) [(getZ v 0 7 == 15, true), (getZ v 0 7 == 3, false), (pre (fieldC v 0 7), true), (pre (fieldC v 12 3 && getZ v 12 3 == 7), true)] (by kernel_rfl) (by simp [pre, fieldC_lit hv, hf3, hv, hv, h0, h1]) w hG).of_eq (by first | (simp only [operZ, pre, fieldC_lit hv, hf3, hv, hv, h0, h1]; rfl) | simp [operZ, pre, fieldC_lit hv, hf3, hv, hv, h0, h1])
    · rcases Bool.eq_false_or_eq_true (getZ v 0 7 == 19) with h2 | h2
      · exact (retP (TabOk.none _ _) (pOperC_ok 7) (fuel := 1000) O1 [false, false, true] (v := .int .i64 (immediateZ v 27 30)) [(pre (w32B v), true), (getZ v 0 7 == 19, true), (getZ v 0 7 == 15, false), (getZ v 0 7 == 3, false), (pre (fieldC v 0 7), true), (pre (fieldC v 12 3 && getZ v 12 3 == 7), true)] (by kernel_rfl) (by simp [pre, fieldC_lit hv, hf3, hv, hv, h0, h1, h2]) w hG).of_eq (by first | (simp only [operZ, pre, fieldC_lit hv, hf3, hv, hv, h0, h1, h2]; rfl) | simp [operZ, pre, fieldC_lit hv, hf3, hv, hv, h0, h1, h2])
      · rcases Bool.eq_false_or_eq_true (getZ v 0 7 == 23) with h3 | h3
        · exact (retP (TabOk.none _ _) (pOperC_ok 7) (fuel := 1000) O1 [false, false, false, true] (v := .int .i64 (2)) [(getZ v 0 7 == 23, true), (getZ v 0 7 == 19, false), (getZ v 0 7 == 15, false), (getZ v 0 7 == 3, false), (pre (fieldC v 0 7), true), (pre (fieldC v 12 3 && getZ v 12 3 == 7), true)] (by kernel_rfl) (by simp [pre, fieldC_lit hv, hf3, hv, hv, h0, h1, h2, h3]) w hG).of_eq (by first | (simp only [operZ, pre, fieldC_lit hv, hf3, hv, hv, h0, h1, h2, h3]; rfl) | simp [operZ, pre, fieldC_lit hv, hf3, hv, hv, h0, h1, h2, h3])
        · rcases Bool.eq_false_or_eq_true (getZ v 0 7 == 27) with h4 | h4
          · exact (retP (TabOk.none _ _) (pOperC_ok 7) (fuel := 1000) O1 [false, false, false, false, true] (v := .int .i64 (immediateZ v 0 34)) [(pre (w32B v), true), (getZ v 0 7 == 27, true), (getZ v 0 7 == 23, false), (getZ v 0 7 == 19, false), (getZ v 0 7 == 15, false), (getZ v 0 7 == 3, false), (pre (fieldC v 0 7), true), (pre (fieldC v 12 3 && getZ v 12 3 == 7), true)] (by kernel_rfl) (by simp [pre, fieldC_lit hv, hf3, hv, hv, h0, h1, h2, h3, h4]) w hG).of_eq (by first | (simp only [operZ, pre, fieldC_lit hv, hf3, hv, hv, h0, h1, h2, h3, h4]; rfl) | simp [operZ, pre, fieldC_lit hv, hf3, hv, hv, h0, h1, h2, h3, h4])
          · rcases Bool.eq_false_or_eq_true (getZ v 0 7 == 35) with h5 | h5
            · exact (retP (TabOk.none _ _) (pOperC_ok 7) (fuel := 1000) O1 [false, false, false, false, false, true] (v := .int .i64 (0)) [(getZ v 0 7 == 35, true), (getZ v 0 7 == 27, false), (getZ v 0 7 == 23, false), (getZ v 0 7 == 19, false), (getZ v 0 7 == 15, false), (getZ v 0 7 == 3, false), (pre (fieldC v 0 7), true), (pre (fieldC v 12 3 && getZ v 12 3 == 7), true)] (by kernel_rfl) (by simp [pre, fieldC_lit hv, hf3, hv, hv, h0, h1, h2, h3, h4, h5]) w hG).of_eq (by first | (simp only [operZ, pre, fieldC_lit hv, hf3, hv, hv, h0, h1, h2, h3, h4, h5]; rfl) | simp [operZ, pre, fieldC_lit hv, hf3, hv, hv, h0, h1, h2, h3, h4, h5])
            · rcases Bool.eq_false_or_eq_true (getZ v 0 7 == 47) with h6 | h6
              · exact (retP (TabOk.none _ _) (pOperC_ok 7) (fuel := 1000) O1 [false, false, false, false, false, false, true] (v := .int .i64 (amoZ v)) [(pre (w32B v), true), (getZ v 0 7 == 47, true), (getZ v 0 7 == 35, false), (getZ v 0 7 == 27, false), (getZ v 0 7 == 23, false), (getZ v 0 7 == 19, false), (getZ v 0 7 == 15, false), (getZ v 0 7 == 3, false), (pre (fieldC v 0 7), true), (pre (fieldC v 12 3 && getZ v 12 3 == 7), true)] (by kernel_rfl) (by simp [pre, fieldC_lit hv, hf3, hv, hv, h0, h1, h2, h3, h4, h5, h6]) w hG).of_eq (by first | (simp only [operZ, pre, fieldC_lit hv, hf3, hv, hv, h0, h1, h2, h3, h4, h5, h6]; rfl) | simp [operZ, pre, fieldC_lit hv, hf3, hv, hv, h0, h1, h2, h3, h4, h5, h6])
              · rcases Bool.eq_false_or_eq_true (getZ v 0 7 == 51) with h7 | h7
                · exact (retP (TabOk.none _ _) (pOperC_ok 7) (fuel := 1000) O1 [false, false, false, false, false, false, false, true] (v := .int .i64 (byF7Z v 44 57 0)) [(pre (w32B v), true), (getZ v 0 7 == 51, true), (getZ v 0 7 == 47, false), (getZ v 0 7 == 35, false), (getZ v 0 7 == 27, false), (getZ v 0 7 == 23, false), (getZ v 0 7 == 19, false), (getZ v 0 7 == 15, false), (getZ v 0 7 == 3, false), (pre (fieldC v 0 7), true), (pre (fieldC v 12 3 && getZ v 12 3 == 7), true)] (by kernel_rfl) (by simp [pre, fieldC_lit hv, hf3, hv, hv, h0, h1, h2, h3, h4, h5, h6, h7]) w hG).of_eq (by first | (simp only [operZ, pre, fieldC_lit hv, hf3, hv, hv, h0, h1, h2, h3, h4, h5, h6, h7]; rfl) | simp [operZ, pre, fieldC_lit hv, hf3, hv, hv, h0, h1, h2, h3, h4, h5, h6, h7])
                · rcases Bool.eq_false_or_eq_true (getZ v 0 7 == 55) with h8 | h8
                  · exact (retP (TabOk.none _ _) (pOperC_ok 7) (fuel := 1000) O1 [false, false, false, false, false, false, false, false, true] (v := .int .i64 (1)) [(getZ v 0 7 == 55, true), (getZ v 0 7 == 51, false), (getZ v 0 7 == 47, false), (getZ v 0 7 == 35, false), (getZ v 0 7 == 27, false), (getZ v 0 7 == 23, false), (getZ v 0 7 == 19, false), (getZ v 0 7 == 15, false), (getZ v 0 7 == 3, false), (pre (fieldC v 0 7), true), (pre (fieldC v 12 3 && getZ v 12 3 == 7), true)] (by kernel_rfl) (by simp [pre, fieldC_lit hv, hf3, hv, hv, h0, h1, h2, h3, h4, h5, h6, h7, h8]) w hG).of_eq (by first | (simp only [operZ, pre, fieldC_lit hv, hf3, hv, hv, h0, h1, h2, h3, h4, h5, h6, h7, h8]; rfl) | simp [operZ, pre, fieldC_lit hv, hf3, hv, hv, h0, h1, h2, h3, h4, h5, h6, h7, h8])
                  · rcases Bool.eq_false_or_eq_true (getZ v 0 7 == 59) with h9 | h9
                    · exact (retP (TabOk.none _ _) (pOperC_ok 7) (fuel := 1000) O1 [false, false, false, false, false, false, false, false, false, true] (v := .int .i64 (byF7Z v 0 62 0)) [(pre (w32B v), true), (getZ v 0 7 == 59, true), (getZ v 0 7 == 55, false), (getZ v 0 7 == 51, false), (getZ v 0 7 == 47, false), (getZ v 0 7 == 35, false), (getZ v 0 7 == 27, false), (getZ v 0 7 == 23, false), (getZ v 0 7 == 19, false), (getZ v 0 7 == 15, false), (getZ v 0 7 == 3, false), (pre (fieldC v 0 7), true), (pre (fieldC v 12 3 && getZ v 12 3 == 7), true)] (by kernel_rfl) (by simp [pre, fieldC_lit hv, hf3, hv, hv, h0, h1, h2, h3, h4, h5, h6, h7, h8, h9]) w hG).of_eq (by first | (simp only [operZ, pre, fieldC_lit hv, hf3, hv, hv, h0, h1, h2, h3, h4, h5, h6, h7, h8, h9]; rfl) | simp [operZ, pre, fieldC_lit hv, hf3, hv, hv, h0, h1, h2, h3, h4, h5, h6, h7, h8, h9])
                    · rcases Bool.eq_false_or_eq_true (getZ v 0 7 == 99) with h10 | h10
                      · exact (retP (TabOk.none _ _) (pOperC_ok 7) (fuel := 1000) O1 [false, false, false, false, false, false, false, false, false, false, true] (v := .int .i64 (10)) [(getZ v 0 7 == 99, true), (getZ v 0 7 == 59, false), (getZ v 0 7 == 55, false), (getZ v 0 7 == 51, false), (getZ v 0 7 == 47, false), (getZ v 0 7 == 35, false), (getZ v 0 7 == 27, false), (getZ v 0 7 == 23, false), (getZ v 0 7 == 19, false), (getZ v 0 7 == 15, false), (getZ v 0 7 == 3, false), (pre (fieldC v 0 7), true), (pre (fieldC v 12 3 && getZ v 12 3 == 7), true)] (by kernel_rfl) (by simp [pre, fieldC_lit hv, hf3, hv, hv, h0, h1, h2, h3, h4, h5, h6, h7, h8, h9, h10]) w hG).of_eq (by first | (simp only [operZ, pre, fieldC_lit hv, hf3, hv, hv, h0, h1, h2, h3, h4, h5, h6, h7, h8, h9, h10]; rfl) | simp [operZ, pre, fieldC_lit hv, hf3, hv, hv, h0, h1, h2, h3, h4, h5, h6, h7, h8, h9, h10])
                      · rcases Bool.eq_false_or_eq_true (getZ v 0 7 == 103) with h11 | h11
                        · exact (retP (TabOk.none _ _) (pOperC_ok 7) (fuel := 1000) O1 [false, false, false, false, false, false, false, false, false, false, false, true] (v := .int .i64 (4)) [(getZ v 0 7 == 103, true), (getZ v 0 7 == 99, false), (getZ v 0 7 == 59, false), (getZ v 0 7 == 55, false), (getZ v 0 7 == 51, false), (getZ v 0 7 == 47, false), (getZ v 0 7 == 35, false), (getZ v 0 7 == 27, false), (getZ v 0 7 == 23, false), (getZ v 0 7 == 19, false), (getZ v 0 7 == 15, false), (getZ v 0 7 == 3, false), (pre (fieldC v 0 7), true), (pre (fieldC v 12 3 && getZ v 12 3 == 7), true)] (by kernel_rfl) (by simp [pre, fieldC_lit hv, hf3, hv, hv, h0, h1, h2, h3, h4, h5, h6, h7, h8, h9, h10, h11]) w hG).of_eq (by first | (simp only [operZ, pre, fieldC_lit hv, hf3, hv, hv, h0, h1, h2, h3, h4, h5, h6, h7, h8, h9, h10, h11]; rfl) | simp [operZ, pre, fieldC_lit hv, hf3, hv, hv, h0, h1, h2, h3, h4, h5, h6, h7, h8, h9, h10, h11])
                        · rcases Bool.eq_false_or_eq_true (getZ v 0 7 == 111) with h12 | h12
                          · exact (retP (TabOk.none _ _) (pOperC_ok 7) (fuel := 1000) O1 [false, false, false, false, false, false, false, false, false, false, false, false, true] (v := .int .i64 (3)) [(getZ v 0 7 == 111, true), (getZ v 0 7 == 103, false), (getZ v 0 7 == 99, false), (getZ v 0 7 == 59, false), (getZ v 0 7 == 55, false), (getZ v 0 7 == 51, false), (getZ v 0 7 == 47, false), (getZ v 0 7 == 35, false), (getZ v 0 7 == 27, false), (getZ v 0 7 == 23, false), (getZ v 0 7 == 19, false), (getZ v 0 7 == 15, false), (getZ v 0 7 == 3, false), (pre (fieldC v 0 7), true), (pre (fieldC v 12 3 && getZ v 12 3 == 7), true)] (by kernel_rfl) (by simp [pre, fieldC_lit hv, hf3, hv, hv, h0, h1, h2, h3, h4, h5, h6, h7, h8, h9, h10, h11, h12]) w hG).of_eq (by first | (simp only [operZ, pre, fieldC_lit hv, hf3, hv, hv, h0, h1, h2, h3, h4, h5, h6, h7, h8, h9, h10, h11, h12]; rfl) | simp [operZ, pre, fieldC_lit hv, hf3, hv, hv, h0, h1, h2, h3, h4, h5, h6, h7, h8, h9, h10, h11, h12])
                          · rcases Bool.eq_false_or_eq_true (getZ v 0 7 == 115) with h13 | h13
                            · exact (retP (TabOk.none _ _) (pOperC_ok 7) (fuel := 1000) O1 [false, false, false, false, false, false, false, false, false, false, false, false, false, true] (v := .int .i64 (systemZ v)) [(pre (w32B v), true), (getZ v 0 7 == 115, true), (getZ v 0 7 == 111, false), (getZ v 0 7 == 103, false), (getZ v 0 7 == 99, false), (getZ v 0 7 == 59, false), (getZ v 0 7 == 55, false), (getZ v 0 7 == 51, false), (getZ v 0 7 == 47, false), (getZ v 0 7 == 35, false), (getZ v 0 7 == 27, false), (getZ v 0 7 == 23, false), (getZ v 0 7 == 19, false), (getZ v 0 7 == 15, false), (getZ v 0 7 == 3, false), (pre (fieldC v 0 7), true), (pre (fieldC v 12 3 && getZ v 12 3 == 7), true)] (by kernel_rfl) (by simp [pre, fieldC_lit hv, hf3, hv, hv, h0, h1, h2, h3, h4, h5, h6, h7, h8, h9, h10, h11, h12, h13]) w hG).of_eq (by first | (simp only [operZ, pre, fieldC_lit hv, hf3, hv, hv, h0, h1, h2, h3, h4, h5, h6, h7, h8, h9, h10, h11, h12, h13]; rfl) | simp [operZ, pre, fieldC_lit hv, hf3, hv, hv, h0, h1, h2, h3, h4, h5, h6, h7, h8, h9, h10, h11, h12, h13])
                            · exact (retP (TabOk.none _ _) (pOperC_ok 7) (fuel := 1000) O1 [false, false, false, false, false, false, false, false, false, false, false, false, false, false] (v := .int .i64 (0)) [(getZ v 0 7 == 115, false), (getZ v 0 7 == 111, false), (getZ v 0 7 == 103, false), (getZ v 0 7 == 99, false), (getZ v 0 7 == 59, false), (getZ v 0 7 == 55, false), (getZ v 0 7 == 51, false), (getZ v 0 7 == 47, false), (getZ v 0 7 == 35, false), (getZ v 0 7 == 27, false), (getZ v 0 7 == 23, false), (getZ v 0 7 == 19, false), (getZ v 0 7 == 15, false), (getZ v 0 7 == 3, false), (pre (fieldC v 0 7), true), (pre (fieldC v 12 3 && getZ v 12 3 == 7), true)] (by kernel_rfl) (by simp [pre, fieldC_lit hv, hf3, hv, hv, h0, h1, h2, h3, h4, h5, h6, h7, h8, h9, h10, h11, h12, h13]) w hG).of_eq (by first | (simp only [operZ, pre, fieldC_lit hv, hf3, hv, hv, h0, h1, h2, h3, h4, h5, h6, h7, h8, h9, h10, h11, h12, h13]; rfl) | simp [operZ, pre, fieldC_lit hv, hf3, hv, hv, h0, h1, h2, h3, h4, h5, h6, h7, h8, h9, h10, h11, h12, h13])
theorem operation_ret (v : Int) (hv : w32B v = true) (w : World) (hG : GlobOk decGl w) : Ret Tryd.prog 62 #[.int .u32 v] (.int .i64 (operZ (v / 4096 % 8) v)) w := by
  have h : getZ v 12 3 = v / 4096 % 8 := get_lit v 12 3 4096 8 hv (by decide)
  have hk : v / 4096 % 8 = 0 ∨ v / 4096 % 8 = 1 ∨ v / 4096 % 8 = 2 ∨ v / 4096 % 8 = 3 ∨ v / 4096 % 8 = 4 ∨ v / 4096 % 8 = 5 ∨ v / 4096 % 8 = 6 ∨ v / 4096 % 8 = 7 := by omega
  rcases hk with hk | hk | hk | hk | hk | hk | hk | hk <;> rw [hk] at h ⊢
  · exact operation_0 v hv h w hG
  · exact operation_1 v hv h w hG
  · exact operation_2 v hv h w hG
  · exact operation_3 v hv h w hG
  · exact operation_4 v hv h w hG
  · exact operation_5 v hv h w hG
  · exact operation_6 v hv h w hG
  · exact operation_7 v hv h w hG
noncomputable def decOperation : List Value → Option (Value × Bool)
  | [.int .u32 v] => some (.int .i64 (operZ (v / 4096 % 8) v), pre (w32B v))
  | _ => none
noncomputable def pOperation : PTab := prowD 62 decOperation
theorem pOperation_ok : PTabOk Tryd.prog decGl pOperation := .rowD fun args u hd w hG => by
  unfold decOperation at hd
  split at hd
  · rename_i v
    simp only [Option.some.injEq, Prod.mk.injEq, pre] at hd
    obtain ⟨rfl, hc⟩ := hd
    exact operation_ret v hc w hG
  · cases hd
noncomputable def pReadC : PTab := orP pField pSign
theorem pReadC_ok {gl : Gl} : PTabOk Tryd.prog gl pReadC := pField_ok.or pSign_ok
noncomputable def envR : S2.Env := S2.envq Tryd.prog decGl tForm pReadC S2.noL
theorem envR_ok : S2.CallOk envR := S2.envq_ok tForm_ok pReadC_ok (.none _ _)
noncomputable def shZ (x n : Int) : Int := S2.arZ .shl .u32 x n
noncomputable def orZ (x y : Int) : Int := S2.arZ .or .u32 x y
noncomputable def rawU (v : Int) : Int := orZ 0 (shZ (getZ v 12 20) 0)
noncomputable def rawJ (v : Int) : Int := orZ (orZ (orZ (orZ 0 (shZ (getZ v 31 1) 20)) (shZ (getZ v 21 10) 1)) (shZ (getZ v 20 1) 11)) (shZ (getZ v 12 8) 12)
noncomputable def rawI (v : Int) : Int := orZ 0 (shZ (getZ v 20 12) 0)
noncomputable def rawB (v : Int) : Int := orZ (orZ (orZ (orZ 0 (shZ (getZ v 31 1) 12)) (shZ (getZ v 25 6) 5)) (shZ (getZ v 8 4) 1)) (shZ (getZ v 7 1) 11)
noncomputable def rawS (v : Int) : Int := orZ (orZ 0 (shZ (getZ v 25 7) 5)) (shZ (getZ v 7 5) 0)
theorem w32_wrap (x : Int) : w32B (IntKind.u32.wrap x) = true := by unfold w32B; rw [IntKind.wrap_u32]; simp; omega
theorem sign_or (x y n : Int) : signC32 (orZ x y) n = decide (1 ≤ n ∧ n ≤ 32) := by
  unfold signC32 orZ
  rw [S2.arZ_eq]
  have : w32B (S2.arF .or .u32 x y) = true := w32_wrap _
  rw [this]; rfl
theorem read_1 (op v : Int) (hv : w32B v = true) (hk : formZ op = 1) (w : World) (hG : GlobOk decGl w) : Ret Tryd.prog 61 #[.int .i64 op, .int .u32 v] (inV ⟨op, IntKind.i64.wrap (getZ v 7 5), 0, 0, signZ (rawU v) 20, false, false⟩) w :=
  S2.LRet.plain (S2.fn_ok envR_ok (fuel := 1000) (d := 30) (plan := []) (orc := [true]) (fls := [[true], [true]]) (l := [(pre (signC32 (rawU v) 20), true), (pre (fieldC v 12 20), true), (pre (fieldC v 7 5), true), (formZ op == 1, true)]) (args := [.inl (.int .i64 op), .inl (.int .u32 v)]) (tr := []) (by kernel_rfl) (by simp [pre, fieldC_lit hv, sign_or, rawU, rawJ, rawI, rawB, rawS, hk]) Tryd.func61 w [.int .i64 op, .int .u32 v] hG ⟨rfl, rfl, trivial⟩ fun t ht => by cases ht)
theorem read_2 (op v : Int) (hv : w32B v = true) (hk : formZ op = 2) (w : World) (hG : GlobOk decGl w) : Ret Tryd.prog 61 #[.int .i64 op, .int .u32 v] (inV ⟨op, IntKind.i64.wrap (getZ v 7 5), 0, 0, signZ (rawJ v) 21, false, false⟩) w :=
  S2.LRet.plain (S2.fn_ok envR_ok (fuel := 1000) (d := 30) (plan := []) (orc := [false, true]) (fls := [[true], [true]]) (l := [(pre (signC32 (rawJ v) 21), true), (pre (fieldC v 12 8), true), (pre (fieldC v 20 1), true), (pre (fieldC v 21 10), true), (pre (fieldC v 31 1), true), (pre (fieldC v 7 5), true), (formZ op == 2, true), (formZ op == 1, false)]) (args := [.inl (.int .i64 op), .inl (.int .u32 v)]) (tr := []) (by kernel_rfl) (by simp [pre, fieldC_lit hv, sign_or, rawU, rawJ, rawI, rawB, rawS, hk]) Tryd.func61 w [.int .i64 op, .int .u32 v] hG ⟨rfl, rfl, trivial⟩ fun t ht => by cases ht)
theorem read_3 (op v : Int) (hv : w32B v = true) (hk : formZ op = 3) (w : World) (hG : GlobOk decGl w) : Ret Tryd.prog 61 #[.int .i64 op, .int .u32 v] (inV ⟨op, IntKind.i64.wrap (getZ v 7 5), IntKind.i64.wrap (getZ v 15 5), 0, signZ (rawI v) 12, false, false⟩) w :=
  S2.LRet.plain (S2.fn_ok envR_ok (fuel := 1000) (d := 30) (plan := []) (orc := [false, false, true]) (fls := [[true], [true]]) (l := [(pre (signC32 (rawI v) 12), true), (pre (fieldC v 20 12), true), (pre (fieldC v 15 5), true), (pre (fieldC v 7 5), true), (formZ op == 3, true), (formZ op == 2, false), (formZ op == 1, false)]) (args := [.inl (.int .i64 op), .inl (.int .u32 v)]) (tr := []) (by kernel_rfl) (by simp [pre, fieldC_lit hv, sign_or, rawU, rawJ, rawI, rawB, rawS, hk]) Tryd.func61 w [.int .i64 op, .int .u32 v] hG ⟨rfl, rfl, trivial⟩ fun t ht => by cases ht)
theorem read_4 (op v : Int) (hv : w32B v = true) (hk : formZ op = 4) (w : World) (hG : GlobOk decGl w) : Ret Tryd.prog 61 #[.int .i64 op, .int .u32 v] (inV ⟨op, 0, IntKind.i64.wrap (getZ v 15 5), IntKind.i64.wrap (getZ v 20 5), signZ (rawB v) 13, false, false⟩) w :=
  S2.LRet.plain (S2.fn_ok envR_ok (fuel := 1000) (d := 30) (plan := []) (orc := [false, false, false, true]) (fls := [[true], [true]]) (l := [(pre (signC32 (rawB v) 13), true), (pre (fieldC v 7 1), true), (pre (fieldC v 8 4), true), (pre (fieldC v 25 6), true), (pre (fieldC v 31 1), true), (pre (fieldC v 20 5), true), (pre (fieldC v 15 5), true), (formZ op == 4, true), (formZ op == 3, false), (formZ op == 2, false), (formZ op == 1, false)]) (args := [.inl (.int .i64 op), .inl (.int .u32 v)]) (tr := []) (by kernel_rfl) (by simp [pre, fieldC_lit hv, sign_or, rawU, rawJ, rawI, rawB, rawS, hk]) Tryd.func61 w [.int .i64 op, .int .u32 v] hG ⟨rfl, rfl, trivial⟩ fun t ht => by cases ht)
theorem read_5 (op v : Int) (hv : w32B v = true) (hk : formZ op = 5) (w : World) (hG : GlobOk decGl w) : Ret Tryd.prog 61 #[.int .i64 op, .int .u32 v] (inV ⟨op, 0, IntKind.i64.wrap (getZ v 15 5), IntKind.i64.wrap (getZ v 20 5), signZ (rawS v) 12, false, false⟩) w :=
  S2.LRet.plain (S2.fn_ok envR_ok (fuel := 1000) (d := 30) (plan := []) (orc := [false, false, false, false, true]) (fls := [[true], [true]]) (l := [(pre (signC32 (rawS v) 12), true), (pre (fieldC v 7 5), true), (pre (fieldC v 25 7), true), (pre (fieldC v 20 5), true), (pre (fieldC v 15 5), true), (formZ op == 5, true), (formZ op == 4, false), (formZ op == 3, false), (formZ op == 2, false), (formZ op == 1, false)]) (args := [.inl (.int .i64 op), .inl (.int .u32 v)]) (tr := []) (by kernel_rfl) (by simp [pre, fieldC_lit hv, sign_or, rawU, rawJ, rawI, rawB, rawS, hk]) Tryd.func61 w [.int .i64 op, .int .u32 v] hG ⟨rfl, rfl, trivial⟩ fun t ht => by cases ht)
theorem read_6 (op v : Int) (hv : w32B v = true) (hk : formZ op = 6) (w : World) (hG : GlobOk decGl w) : Ret Tryd.prog 61 #[.int .i64 op, .int .u32 v] (inV ⟨op, IntKind.i64.wrap (getZ v 7 5), IntKind.i64.wrap (getZ v 15 5), IntKind.i64.wrap (getZ v 20 5), 0, false, false⟩) w :=
  S2.LRet.plain (S2.fn_ok envR_ok (fuel := 1000) (d := 30) (plan := []) (orc := [false, false, false, false, false, true]) (fls := [[true], [true]]) (l := [(pre (fieldC v 20 5), true), (pre (fieldC v 15 5), true), (pre (fieldC v 7 5), true), (formZ op == 6, true), (formZ op == 5, false), (formZ op == 4, false), (formZ op == 3, false), (formZ op == 2, false), (formZ op == 1, false)]) (args := [.inl (.int .i64 op), .inl (.int .u32 v)]) (tr := []) (by kernel_rfl) (by simp [pre, fieldC_lit hv, sign_or, rawU, rawJ, rawI, rawB, rawS, hk]) Tryd.func61 w [.int .i64 op, .int .u32 v] hG ⟨rfl, rfl, trivial⟩ fun t ht => by cases ht)
theorem read_7 (op v : Int) (hv : w32B v = true) (hk : formZ op = 7) (w : World) (hG : GlobOk decGl w) : Ret Tryd.prog 61 #[.int .i64 op, .int .u32 v] (inV ⟨op, IntKind.i64.wrap (getZ v 7 5), IntKind.i64.wrap (getZ v 15 5), 0, IntKind.i64.wrap (shZ (getZ v 20 6) 0), false, false⟩) w :=
  S2.LRet.plain (S2.fn_ok envR_ok (fuel := 1000) (d := 30) (plan := []) (orc := [false, false, false, false, false, false, true]) (fls := [[true], [true]]) (l := [(pre (fieldC v 20 6), true), (pre (fieldC v 15 5), true), (pre (fieldC v 7 5), true), (formZ op == 7, true), (formZ op == 6, false), (formZ op == 5, false), (formZ op == 4, false), (formZ op == 3, false), (formZ op == 2, false), (formZ op == 1, false)]) (args := [.inl (.int .i64 op), .inl (.int .u32 v)]) (tr := []) (by kernel_rfl) (by simp [pre, fieldC_lit hv, sign_or, rawU, rawJ, rawI, rawB, rawS, hk]) Tryd.func61 w [.int .i64 op, .int .u32 v] hG ⟨rfl, rfl, trivial⟩ fun t ht => by cases ht)
theorem read_8 (op v : Int) (hv : w32B v = true) (hk : formZ op = 8) (w : World) (hG : GlobOk decGl w) : Ret Tryd.prog 61 #[.int .i64 op, .int .u32 v] (inV ⟨op, IntKind.i64.wrap (getZ v 7 5), IntKind.i64.wrap (getZ v 15 5), 0, IntKind.i64.wrap (shZ (getZ v 20 5) 0), false, false⟩) w :=
  S2.LRet.plain (S2.fn_ok envR_ok (fuel := 1000) (d := 30) (plan := []) (orc := [false, false, false, false, false, false, false, true]) (fls := [[true], [true]]) (l := [(pre (fieldC v 20 5), true), (pre (fieldC v 15 5), true), (pre (fieldC v 7 5), true), (formZ op == 8, true), (formZ op == 7, false), (formZ op == 6, false), (formZ op == 5, false), (formZ op == 4, false), (formZ op == 3, false), (formZ op == 2, false), (formZ op == 1, false)]) (args := [.inl (.int .i64 op), .inl (.int .u32 v)]) (tr := []) (by kernel_rfl) (by simp [pre, fieldC_lit hv, sign_or, rawU, rawJ, rawI, rawB, rawS, hk]) Tryd.func61 w [.int .i64 op, .int .u32 v] hG ⟨rfl, rfl, trivial⟩ fun t ht => by cases ht)
theorem read_9 (op v : Int) (hv : w32B v = true) (hk : formZ op = 9) (w : World) (hG : GlobOk decGl w) : Ret Tryd.prog 61 #[.int .i64 op, .int .u32 v] (inV ⟨op, 0, 0, 0, IntKind.i64.wrap (shZ (getZ v 20 8) 0), false, false⟩) w :=
  S2.LRet.plain (S2.fn_ok envR_ok (fuel := 1000) (d := 30) (plan := []) (orc := [false, false, false, false, false, false, false, false, true]) (fls := [[true], [true]]) (l := [(pre (fieldC v 20 8), true), (formZ op == 9, true), (formZ op == 8, false), (formZ op == 7, false), (formZ op == 6, false), (formZ op == 5, false), (formZ op == 4, false), (formZ op == 3, false), (formZ op == 2, false), (formZ op == 1, false)]) (args := [.inl (.int .i64 op), .inl (.int .u32 v)]) (tr := []) (by kernel_rfl) (by simp [pre, fieldC_lit hv, sign_or, rawU, rawJ, rawI, rawB, rawS, hk]) Tryd.func61 w [.int .i64 op, .int .u32 v] hG ⟨rfl, rfl, trivial⟩ fun t ht => by cases ht)
theorem read_10 (op v : Int) (hv : w32B v = true) (hk : formZ op = 10) (w : World) (hG : GlobOk decGl w) : Ret Tryd.prog 61 #[.int .i64 op, .int .u32 v] (inV ⟨op, IntKind.i64.wrap (getZ v 7 5), IntKind.i64.wrap (getZ v 15 5), 0, 0, getZ v 26 1 == 1, getZ v 25 1 == 1⟩) w :=
  S2.LRet.plain (S2.fn_ok envR_ok (fuel := 1000) (d := 30) (plan := []) (orc := [false, false, false, false, false, false, false, false, false, true]) (fls := [[true], [true]]) (l := [(pre (fieldC v 25 1), true), (pre (fieldC v 26 1), true), (pre (fieldC v 15 5), true), (pre (fieldC v 7 5), true), (formZ op == 10, true), (formZ op == 9, false), (formZ op == 8, false), (formZ op == 7, false), (formZ op == 6, false), (formZ op == 5, false), (formZ op == 4, false), (formZ op == 3, false), (formZ op == 2, false), (formZ op == 1, false)]) (args := [.inl (.int .i64 op), .inl (.int .u32 v)]) (tr := []) (by kernel_rfl) (by simp [pre, fieldC_lit hv, sign_or, rawU, rawJ, rawI, rawB, rawS, hk]) Tryd.func61 w [.int .i64 op, .int .u32 v] hG ⟨rfl, rfl, trivial⟩ fun t ht => by cases ht)
theorem read_11 (op v : Int) (hv : w32B v = true) (hk : formZ op = 11) (w : World) (hG : GlobOk decGl w) : Ret Tryd.prog 61 #[.int .i64 op, .int .u32 v] (inV ⟨op, IntKind.i64.wrap (getZ v 7 5), IntKind.i64.wrap (getZ v 15 5), IntKind.i64.wrap (getZ v 20 5), 0, getZ v 26 1 == 1, getZ v 25 1 == 1⟩) w :=
  S2.LRet.plain (S2.fn_ok envR_ok (fuel := 1000) (d := 30) (plan := []) (orc := [false, false, false, false, false, false, false, false, false, false, true]) (fls := [[true], [true]]) (l := [(pre (fieldC v 25 1), true), (pre (fieldC v 26 1), true), (pre (fieldC v 20 5), true), (pre (fieldC v 15 5), true), (pre (fieldC v 7 5), true), (formZ op == 11, true), (formZ op == 10, false), (formZ op == 9, false), (formZ op == 8, false), (formZ op == 7, false), (formZ op == 6, false), (formZ op == 5, false), (formZ op == 4, false), (formZ op == 3, false), (formZ op == 2, false), (formZ op == 1, false)]) (args := [.inl (.int .i64 op), .inl (.int .u32 v)]) (tr := []) (by kernel_rfl) (by simp [pre, fieldC_lit hv, sign_or, rawU, rawJ, rawI, rawB, rawS, hk]) Tryd.func61 w [.int .i64 op, .int .u32 v] hG ⟨rfl, rfl, trivial⟩ fun t ht => by cases ht)
theorem read_12 (op v : Int) (hv : w32B v = true) (hk : formZ op = 0 ∨ formZ op = -1) (w : World) (hG : GlobOk decGl w) : Ret Tryd.prog 61 #[.int .i64 op, .int .u32 v] (inV ⟨op, 0, 0, 0, 0, false, false⟩) w :=
  S2.LRet.plain (S2.fn_ok envR_ok (fuel := 1000) (d := 30) (plan := []) (orc := [false, false, false, false, false, false, false, false, false, false, false]) (fls := [[true], [true]]) (l := [(formZ op == 11, false), (formZ op == 10, false), (formZ op == 9, false), (formZ op == 8, false), (formZ op == 7, false), (formZ op == 6, false), (formZ op == 5, false), (formZ op == 4, false), (formZ op == 3, false), (formZ op == 2, false), (formZ op == 1, false)]) (args := [.inl (.int .i64 op), .inl (.int .u32 v)]) (tr := []) (by kernel_rfl) (by rcases hk with hk | hk <;> simp [hk]) Tryd.func61 w [.int .i64 op, .int .u32 v] hG ⟨rfl, rfl, trivial⟩ fun t ht => by cases ht)
theorem shZ_eq (x n m : Int) (hm : ((2 ^ (min n.toNat 32) : Nat) : Int) = m) (h0 : 0 ≤ x * m) (h1 : x * m < 4294967296) : shZ x n = x * m := by
  subst hm
  unfold shZ
  rw [S2.arZ_eq]
  show IntKind.u32.wrap (x * 2 ^ (min n.toNat 32)) = _
  rw [IntKind.wrap_u32]
  push_cast at h0 h1 ⊢
  omega
theorem or_lit (w y P Q : Int) (a n : Nat) (hP : ((2 ^ a : Nat) : Int) = P) (hQ : ((2 ^ n : Nat) : Int) = Q) (h0 : 0 ≤ w) (h1 : w < 4294967296) (y0 : 0 ≤ y) (y1 : y < Q) (h2 : y * P < 4294967296) (hz : w / P % Q = 0) (k : Int) (hk : ((2 ^ (min k.toNat 32) : Nat) : Int) = P) : orZ w (shZ y k) = w + y * P := by
  have hPp : 0 < P := by rw [← hP]; exact Int.natCast_pos.mpr (Nat.two_pow_pos a)
  have hyP : 0 ≤ y * P := Int.mul_nonneg y0 (Int.le_of_lt hPp)
  rw [shZ_eq y k P hk hyP h2]
  clear hk
  subst hP hQ
  obtain ⟨w, rfl⟩ := Int.eq_ofNat_of_zero_le h0
  obtain ⟨y, rfl⟩ := Int.eq_ofNat_of_zero_le y0
  have e : (y : Int) * ((2 ^ a : Nat) : Int) = ((y * 2 ^ a : Nat) : Int) := by push_cast; rfl
  rw [e] at h2 ⊢
  unfold orZ
  rw [S2.arZ_eq]
  show bits .or .u32 _ _ = _
  rw [u32_or_nat w (y * 2 ^ a) (by omega) (by omega), or_field w a n y (by omega) (by
    have : ((w / 2 ^ a % 2 ^ n : Nat) : Int) = 0 := by rw [← hz]; push_cast; rfl
    omega)]
  push_cast; rfl
theorem sgn_lit (x n P : Int) (hp : ((2 ^ (n.toNat - 1) : Nat) : Int) = P) (hP : P ≤ 4294967296) (x0 : 0 ≤ x) (x1 : x < 2 * P) : signZ x n = sgn x P := by
  have hw : IntKind.u64.wrap x = x := by
    have : IntKind.u64.wrap x = x % 18446744073709551616 := rfl
    omega
  rw [← sign_lit x n P hp hP x0 x1, hw]
theorem i64_id (x : Int) (h0 : 0 ≤ x) (h1 : x < 4294967296) : IntKind.i64.wrap x = x := wrap_id x h0 h1
theorem read_asIn (op v : Int) (hv : w32B v = true) (ho : okB op = true) (w : World) (hG : GlobOk decGl w) : Ret Tryd.prog 61 #[.int .i64 op, .int .u32 v] (inV (asIn op v)) w := by
  have hr : 0 ≤ v ∧ v < 4294967296 := by simpa [w32B] using hv
  have L := fun a n p q h => get_lit v a n p q hv h
  have g7 : IntKind.i64.wrap (getZ v 7 5) = v / 128 % 32 := by rw [L 7 5 128 32 (by decide), i64_id _ (by omega) (by omega)]
  have g15 : IntKind.i64.wrap (getZ v 15 5) = v / 32768 % 32 := by rw [L 15 5 32768 32 (by decide), i64_id _ (by omega) (by omega)]
  have g20 : IntKind.i64.wrap (getZ v 20 5) = v / 1048576 % 32 := by rw [L 20 5 1048576 32 (by decide), i64_id _ (by omega) (by omega)]
  have hk : formZ op = 0 ∨ formZ op = 1 ∨ formZ op = 2 ∨ formZ op = 3 ∨ formZ op = 4 ∨ formZ op = 5 ∨ formZ op = 6 ∨ formZ op = 7 ∨ formZ op = 8 ∨ formZ op = 9 ∨ formZ op = 10 ∨ formZ op = 11 := by have := form_rng ho; omega
  have hb : ∀ x : Int, (x % 2 == 1) = (x % 2 == 1) := fun _ => rfl
  unfold asIn
  rcases hk with hk | hk | hk | hk | hk | hk | hk | hk | hk | hk | hk | hk
  · have h := read_12 op v hv (.inl hk) w hG
    rw [hk]; exact h
  · have h := read_1 op v hv hk w hG
    rw [g7] at h
    unfold rawU at h
    rw [L 12 20 4096 1048576 (by decide), or_lit 0 (v / 4096 % 1048576) 1 1048576 0 20 (by decide) (by decide) (by omega) (by omega) (by omega) (by omega) (by omega) (by omega) 0 (by decide), sgn_lit _ 20 524288 (by decide) (by omega) (by omega) (by omega)] at h
    rw [hk]
    have e : (0 + v / 4096 % 1048576 * 1 : Int) = v / 4096 := by omega
    rw [e] at h; exact h
  · have h := read_2 op v hv hk w hG
    rw [g7] at h
    unfold rawJ at h
    rw [L 31 1 2147483648 2 (by decide), L 21 10 2097152 1024 (by decide), L 20 1 1048576 2 (by decide), L 12 8 4096 256 (by decide)] at h
    have s0 : 0 ≤ v / 2147483648 % 2 ∧ v / 2147483648 % 2 < 2 := by omega
    have r0 : 0 ≤ v / 2097152 % 1024 ∧ v / 2097152 % 1024 < 1024 := by omega
    have q0 : 0 ≤ v / 1048576 % 2 ∧ v / 1048576 % 2 < 2 := by omega
    have p0 : 0 ≤ v / 4096 % 256 ∧ v / 4096 % 256 < 256 := by omega
    rw [hk]
    show Ret _ _ _ (inV ⟨op, v / 128 % 32, 0, 0, sgn (v / 2147483648 % 2 * 1048576 + v / 2097152 % 1024 * 2 + v / 1048576 % 2 * 2048 + v / 4096 % 256 * 4096) 1048576, false, false⟩) w
    generalize v / 2147483648 % 2 = s at *
    generalize v / 2097152 % 1024 = r at *
    generalize v / 1048576 % 2 = q at *
    generalize v / 4096 % 256 = p at *
    rw [or_lit 0 s 1048576 2 20 1 (by decide) (by decide) (by omega) (by omega) (by omega) (by omega) (by omega) (by omega) 20 (by decide), Int.zero_add,
      or_lit (s * 1048576) r 2 1024 1 10 (by decide) (by decide) (by omega) (by omega) (by omega) (by omega) (by omega) (by omega) 1 (by decide),
      or_lit (s * 1048576 + r * 2) q 2048 2 11 1 (by decide) (by decide) (by omega) (by omega) (by omega) (by omega) (by omega) (by omega) 11 (by decide),
      or_lit (s * 1048576 + r * 2 + q * 2048) p 4096 256 12 8 (by decide) (by decide) (by omega) (by omega) (by omega) (by omega) (by omega) (by omega) 12 (by decide),
      sgn_lit _ 21 1048576 (by decide) (by omega) (by omega) (by omega)] at h
    exact h
  · have h := read_3 op v hv hk w hG
    rw [g7, g15] at h
    unfold rawI at h
    rw [L 20 12 1048576 4096 (by decide), or_lit 0 (v / 1048576 % 4096) 1 4096 0 12 (by decide) (by decide) (by omega) (by omega) (by omega) (by omega) (by omega) (by omega) 0 (by decide), sgn_lit _ 12 2048 (by decide) (by omega) (by omega) (by omega)] at h
    rw [hk]
    have e : (0 + v / 1048576 % 4096 * 1 : Int) = v / 1048576 := by omega
    rw [e] at h; exact h
  · have h := read_4 op v hv hk w hG
    rw [g15, g20] at h
    unfold rawB at h
    rw [L 31 1 2147483648 2 (by decide), L 25 6 33554432 64 (by decide), L 8 4 256 16 (by decide), L 7 1 128 2 (by decide)] at h
    have s0 : 0 ≤ v / 2147483648 % 2 ∧ v / 2147483648 % 2 < 2 := by omega
    have p0 : 0 ≤ v / 33554432 % 64 ∧ v / 33554432 % 64 < 64 := by omega
    have r0 : 0 ≤ v / 256 % 16 ∧ v / 256 % 16 < 16 := by omega
    have q0 : 0 ≤ v / 128 % 2 ∧ v / 128 % 2 < 2 := by omega
    rw [hk]
    show Ret _ _ _ (inV ⟨op, 0, v / 32768 % 32, v / 1048576 % 32, sgn (v / 2147483648 % 2 * 4096 + v / 33554432 % 64 * 32 + v / 256 % 16 * 2 + v / 128 % 2 * 2048) 4096, false, false⟩) w
    generalize v / 2147483648 % 2 = s at *
    generalize v / 33554432 % 64 = p at *
    generalize v / 256 % 16 = r at *
    generalize v / 128 % 2 = q at *
    rw [or_lit 0 s 4096 2 12 1 (by decide) (by decide) (by omega) (by omega) (by omega) (by omega) (by omega) (by omega) 12 (by decide), Int.zero_add,
      or_lit (s * 4096) p 32 64 5 6 (by decide) (by decide) (by omega) (by omega) (by omega) (by omega) (by omega) (by omega) 5 (by decide),
      or_lit (s * 4096 + p * 32) r 2 16 1 4 (by decide) (by decide) (by omega) (by omega) (by omega) (by omega) (by omega) (by omega) 1 (by decide),
      or_lit (s * 4096 + p * 32 + r * 2) q 2048 2 11 1 (by decide) (by decide) (by omega) (by omega) (by omega) (by omega) (by omega) (by omega) 11 (by decide),
      sgn_lit _ 13 4096 (by decide) (by omega) (by omega) (by omega)] at h
    exact h
  · have h := read_5 op v hv hk w hG
    rw [g15, g20] at h
    unfold rawS at h
    rw [L 25 7 33554432 128 (by decide), L 7 5 128 32 (by decide), or_lit 0 (v / 33554432 % 128) 32 128 5 7 (by decide) (by decide) (by omega) (by omega) (by omega) (by omega) (by omega) (by omega) 5 (by decide), Int.zero_add,
      or_lit (v / 33554432 % 128 * 32) (v / 128 % 32) 1 32 0 5 (by decide) (by decide) (by omega) (by omega) (by omega) (by omega) (by omega) (by omega) 0 (by decide), sgn_lit _ 12 2048 (by decide) (by omega) (by omega) (by omega)] at h
    rw [hk]
    have e : (v / 33554432 % 128 * 32 + v / 128 % 32 * 1 : Int) = v / 33554432 * 32 + v / 128 % 32 := by omega
    rw [e] at h; exact h
  · have h := read_6 op v hv hk w hG
    rw [g7, g15, g20] at h
    rw [hk]; exact h
  · have h := read_7 op v hv hk w hG
    rw [g7, g15, L 20 6 1048576 64 (by decide), shZ_eq _ 0 1 (by decide) (by omega) (by omega), Int.mul_one, i64_id _ (by omega) (by omega)] at h
    rw [hk]; exact h
  · have h := read_8 op v hv hk w hG
    rw [g7, g15, L 20 5 1048576 32 (by decide), shZ_eq _ 0 1 (by decide) (by omega) (by omega), Int.mul_one, i64_id _ (by omega) (by omega)] at h
    rw [hk]; exact h
  · have h := read_9 op v hv hk w hG
    rw [L 20 8 1048576 256 (by decide), shZ_eq _ 0 1 (by decide) (by omega) (by omega), Int.mul_one, i64_id _ (by omega) (by omega)] at h
    rw [hk]; exact h
  · have h := read_10 op v hv hk w hG
    rw [g7, g15, L 26 1 67108864 2 (by decide), L 25 1 33554432 2 (by decide)] at h
    rw [hk]; exact h
  · have h := read_11 op v hv hk w hG
    rw [g7, g15, g20, L 26 1 67108864 2 (by decide), L 25 1 33554432 2 (by decide)] at h
    rw [hk]; exact h
theorem readZ_ex : ∃ f : Int → Int → In, ∀ op v, (okB op = true → f op v = asIn op v) ∧ (okB op = false → f op v = ⟨op, 0, 0, 0, 0, false, false⟩) :=
  ⟨fun op v => bif okB op then asIn op v else ⟨op, 0, 0, 0, 0, false, false⟩, fun op v => ⟨fun h => by show (bif okB op then _ else _) = _; rw [h]; rfl, fun h => by show (bif okB op then _ else _) = _; rw [h]; rfl⟩⟩
noncomputable def readZ5 : Int → Int → In := Classical.choose readZ_ex
theorem readZ5_yes {op v : Int} (h : okB op = true) : readZ5 op v = asIn op v := (Classical.choose_spec readZ_ex op v).1 h
theorem read_ret (op v : Int) (hv : w32B v = true) (w : World) (hG : GlobOk decGl w) : Ret Tryd.prog 61 #[.int .i64 op, .int .u32 v] (inV (readZ5 op v)) w := by
  cases ho : okB op
  · have hk : formZ op = -1 := formZ_out (by rcases op_cases op with ⟨n, n1, n2, rfl⟩ | h
                                             · rw [okB_nat n n1 n2] at ho; cases ho
                                             · exact h)
    have h := read_12 op v hv (.inr hk) w hG
    rw [(Classical.choose_spec readZ_ex op v).2 ho |> (show readZ5 op v = _ from ·)]
    exact h
  · rw [readZ5_yes ho]; exact read_asIn op v hv ho w hG
noncomputable def decRead : List Value → Option (Value × Bool)
  | [.int .i64 op, .int .u32 v] => some (inV (readZ5 op v), pre (w32B v))
  | _ => none
noncomputable def pRead : PTab := prowD 61 decRead
theorem pRead_ok : PTabOk Tryd.prog decGl pRead := .rowD fun args u hd w hG => by
  unfold decRead at hd
  split at hd
  · rename_i op v
    simp only [Option.some.injEq, Prod.mk.injEq, pre] at hd
    obtain ⟨rfl, hc⟩ := hd
    exact read_ret op v hc w hG
  · cases hd
end Go.Proofs.YtiajbijbhhpllaaDoor
namespace Go.Proofs.YtiajbijbhhpllaaDoor
open Sim Go.ChangeShapes Go.WideShapes Go.ChangeAt Go.RowKit
section
variable {H : Type}
def backF (P : Program) (rec : TypeId → DataW H → Option (List Value)) : List Field → List (DataW H) → Nat → Option (List Value)
  | [], [], _ => some []
  | f :: fs, d :: ds, off => bif Nat.beq f.offset off then (match rec f.type d with
    | some c => bif Nat.beq c.length (P.cellsOf f.type) then (match backF P rec fs ds (off + c.length) with
      | some r => some (c ++ r)
      | none => none) else none
    | none => none) else none
  | _, _, _ => none
def backA (k : Nat) (rec : DataW H → Option (List Value)) : List (DataW H) → Option (List Value)
  | [] => some []
  | d :: ds => match rec d with
    | some c => bif Nat.beq c.length k then (match backA k rec ds with
      | some r => some (c ++ r)
      | none => none) else none
    | none => none
def backD (P : Program) : Nat → TypeId → DataW H → Option (List Value)
  | 0, _, _ => none
  | n + 1, t, d => match P.underlying t, d with
    | some .bool, .lit (.bool b) => some [.bool b]
    | some (.int k), .lit (.int j x) => bif decide (k = j) then some [.int k x] else none
    | some .string, .lit (.string l) => some [.string ⟨l.toArray⟩]
    | some (.struct fs), .agg ds => match backF P (backD P n) fs.toList ds 0 with
      | some r => bif Nat.beq r.length (P.cellsOf t) then some r else none
      | none => none
    | some (.array m e), .agg ds => match backA (P.cellsOf e) (backD P n e) ds with
      | some r => bif Nat.beq r.length (P.cellsOf t) then some r else none
      | none => none
    | _, _ => none
theorem backF_ok {P : Program} {rec : TypeId → DataW H → Option (List Value)} {cs : List Value} : ∀ (fs : List Field) (ds : List (DataW H)) (off : Nat) (r : List Value), backF P rec fs ds off = some r →
    (∀ (j : Nat) f d c, fs[j]? = some f → ds[j]? = some d → rec f.type d = some c → (cs.drop f.offset).take (P.cellsOf f.type) = c) → (cs.drop off).take r.length = r
  | [], [], off, r, h, _ => by simp [backF] at h; subst h; rfl
  | f :: fs, d :: ds, off, r, h, hall => by
    unfold backF at h
    cases hb : Nat.beq f.offset off
    · rw [hb] at h; cases h
    · rw [hb] at h
      have hoff := Nat.eq_of_beq_eq_true hb
      simp only [cond_true] at h
      split at h
      · rename_i c hc
        cases hb2 : Nat.beq c.length (P.cellsOf f.type)
        · rw [hb2] at h; cases h
        · rw [hb2] at h
          have hlen := Nat.eq_of_beq_eq_true hb2
          simp only [cond_true] at h
          split at h
          · rename_i r' hr
            simp only [Option.some.injEq] at h
            subst h
            have h1 := hall 0 f d c rfl rfl hc
            have h2 := backF_ok fs ds (off + c.length) r' hr fun j f' d' c' hf hd hrec => hall (j + 1) f' d' c' (by simpa using hf) (by simpa using hd) hrec
            rw [hoff, ← hlen] at h1
            rw [List.length_append, List.take_add, h1, List.drop_drop, h2]
          · cases h
      · cases h
  | [], _ :: _, _, _, h, _ => by simp [backF] at h
  | _ :: _, [], _, _, h, _ => by simp [backF] at h
theorem backA_ok {k : Nat} {rec : DataW H → Option (List Value)} {cs : List Value} : ∀ (ds : List (DataW H)) (o : Nat) (r : List Value), backA k rec ds = some r →
    (∀ (j : Nat) d c, ds[j]? = some d → rec d = some c → (cs.drop ((o + j) * k)).take k = c) → (cs.drop (o * k)).take r.length = r
  | [], _, r, h, _ => by simp [backA] at h; subst h; rfl
  | d :: ds, o, r, h, hall => by
    unfold backA at h
    split at h
    · rename_i c hc
      cases hb2 : Nat.beq c.length k
      · rw [hb2] at h; cases h
      · rw [hb2] at h
        have hlen := Nat.eq_of_beq_eq_true hb2
        simp only [cond_true] at h
        split at h
        · rename_i r' hr
          simp only [Option.some.injEq] at h
          subst h
          have h1 := hall 0 d c rfl hc
          have h2 := backA_ok ds (o + 1) r' hr fun j d' c' hd hrec => by
            have := hall (j + 1) d' c' (by simpa using hd) hrec
            rw [show o + 1 + j = o + (j + 1) by omega]; exact this
          rw [Nat.add_zero] at h1
          have e : (o + 1) * k = o * k + k := by rw [Nat.add_mul, Nat.one_mul]
          rw [List.length_append, List.take_add, hlen, h1, List.drop_drop, ← e, h2]
        · cases h
    · cases h
theorem backD_ok {enc : TypeId × Value → H} {P : Program} {w : World} {base : Nat} {spare : Nat → Bool} {held : Bool} : ∀ (n : Nat) (t : TypeId) (d : DataW H) (r : List Value) (fuel : Nat) (cs : List Value) (ps : List MemPlace),
    backD P n t d = some r → DataW.trod enc P w base spare held fuel t cs = some (d, ps) → cs = r
  | 0, _, _, _, _, _, _, h, _ => by simp [backD] at h
  | n + 1, t, d, r, fuel, cs, ps, h, hd => by
    unfold backD at h
    split at h
    · rename_i b hu
      obtain ⟨m, h0, hx⟩ := DataW.trod_bool hu hd
      rw [Prod.mk.injEq, DataW.lit.injEq, Lit.bool.injEq] at hx
      rw [Option.some.injEq] at h
      rw [h0, ← h, hx.1]
    · rename_i k j x hu
      cases hk : decide (k = j)
      · rw [hk] at h; cases h
      · rw [hk] at h
        obtain ⟨m, h0, hx, _⟩ := DataW.trod_int hu hd
        rw [Prod.mk.injEq, DataW.lit.injEq, Lit.int.injEq] at hx
        simp only [cond_true, Option.some.injEq] at h
        rw [h0, ← h, hx.1.2]
    · rename_i l hu
      obtain ⟨m, h0, hx, _⟩ := DataW.trod_string hu hd
      rw [Prod.mk.injEq, DataW.lit.injEq, Lit.string.injEq] at hx
      rw [Option.some.injEq] at h
      rw [h0, ← h, hx.1]
    · rename_i fs ds hu
      obtain ⟨xs, m, _, hx, hl, hlen, hf⟩ := DataW.trod_struct hu hd
      simp at hx
      split at h
      · rename_i r' hr
        cases hb : Nat.beq r'.length (P.cellsOf t)
        · rw [hb] at h; cases h
        · rw [hb] at h
          simp only [cond_true, Option.some.injEq] at h
          subst h
          have hb := Nat.eq_of_beq_eq_true hb
          have := backF_ok (cs := cs) fs.toList ds 0 r' hr fun j f d' c hfj hdj hrec => by
            have h3 := hf j f (by simpa using hfj)
            rw [hx.1, List.getElem?_map] at hdj
            cases hxj : xs[j]? with
            | none => rw [hxj] at hdj; cases hdj
            | some y =>
              rw [hxj] at hdj h3
              simp at hdj
              obtain ⟨y1, y2⟩ := y
              simp at hdj
              subst hdj
              exact backD_ok n f.type y1 c m _ y2 hrec h3
          rw [List.drop_zero, hb, ← hl, List.take_length] at this
          exact this
      · cases h
    · rename_i k e ds hu
      obtain ⟨xs, m, _, hx, hl, hlen, hf⟩ := DataW.trod_array hu hd
      simp at hx
      split at h
      · rename_i r' hr
        cases hb : Nat.beq r'.length (P.cellsOf t)
        · rw [hb] at h; cases h
        · rw [hb] at h
          simp only [cond_true, Option.some.injEq] at h
          subst h
          have hb := Nat.eq_of_beq_eq_true hb
          have := backA_ok (cs := cs) ds 0 r' hr fun j d' c hdj hrec => by
            rw [hx.1, List.getElem?_map] at hdj
            cases hxj : xs[j]? with
            | none => rw [hxj] at hdj; cases hdj
            | some y =>
              have hjl : j < xs.length := by
                rcases Nat.lt_or_ge j xs.length with h' | h'
                · exact h'
                · rw [List.getElem?_eq_none h'] at hxj; cases hxj
              have h3 := hf j (by omega)
              rw [hxj] at hdj h3
              simp at hdj
              obtain ⟨y1, y2⟩ := y
              simp at hdj
              subst hdj
              rw [Nat.zero_add]
              exact backD_ok n e y1 c m _ y2 hrec h3
          rw [Nat.zero_mul, List.drop_zero, hb, ← hl, List.take_length] at this
          exact this
      · cases h
    · cases h
end
theorem laid_cells {P : Program} {W : World} {n : String} {g g0 : Nat} {t t0 : TypeId} {cs0 : Array Value} {d : DataW Unit} {k fuel : Nat} {p : List MemPlace} {r : List Value} {spare : Nat → Bool} {held : Bool} {base : Nat} {enc : TypeId × Value → Unit}
    (hg : P.globalNamed n = some g) (ht : (P.globals[g]?).map (·.type) = some t) (hr : backD P k t d = some r)
    (hg0 : P.globalNamed n = some g0) (ht0 : (P.globals[g0]?).map (·.type) = some t0) (hv0 : W.var? P n = some cs0) (hd0 : DataW.trod enc P W base spare held fuel t0 cs0.toList = some (d, p)) (i : Nat) : W.cell? ⟨g, i, none⟩ = r[i]? := by
  obtain rfl := Option.some.inj (hg.symm.trans hg0)
  obtain rfl := Option.some.inj (ht.symm.trans ht0)
  rw [World.var?_cell hg hv0 i, ← backD_ok k t d r fuel cs0.toList p hr hd0, Array.getElem?_toList]
def tabOf (P : Program) (k : Nat) : List (String × DataW Unit) → Option (List (Nat × List Value))
  | [] => some []
  | (n, d) :: r => match P.globalNamed n with
    | some g => match (P.globals[g]?).map (·.type) with
      | some t => match backD P k t d, tabOf P k r with
        | some c, some l => some ((g, c) :: l)
        | _, _ => none
      | none => none
    | none => none
theorem tabOf_ok {P : Program} {k : Nat} {W : World} : ∀ (laid : List (String × DataW Unit)) (tab : List (Nat × List Value)) (ps : List MemPlace), tabOf P k laid = some tab → DataW.LaidVars P W laid ps → ∀ g r, (g, r) ∈ tab → ∀ i, W.cell? ⟨g, i, none⟩ = r[i]?
  | [], tab, ps, h, _, g, r, hm, i => by simp only [tabOf, Option.some.injEq] at h; subst h; cases hm
  | (n, d) :: l, tab, ps, h, hL, g, r, hm, i => by
    obtain ⟨g0, t0, cs0, f0, p0, q0, hg0, ht0, hv0, hd0, hl, _⟩ := hL
    unfold tabOf at h
    split at h
    · rename_i g1 hg1
      split at h
      · rename_i t1 ht1
        split at h
        · rename_i c l' hc hl'
          simp only [Option.some.injEq] at h
          subst h
          rcases List.mem_cons.mp hm with e | hm
          · cases e
            exact laid_cells hg1 ht1 hc hg0 ht0 hv0 hd0 i
          · exact tabOf_ok l l' q0 hl' hl g r hm i
        · cases h
      · cases h
    · cases h
theorem globs_of_laid {P : Program} {W : World} {k : Nat} {laid : List (String × DataW Unit)} {tab : List (Nat × List Value)} {gl : Nat → Option (List Value)} (hp : (laid.all fun x => x.2.handleName?.isNone) = true) (ht : tabOf P k laid = some tab) (hg : ∀ g cs, gl g = some cs → (g, cs) ∈ tab)
    (h : laidMetH P laid W) : GlobOk gl W := by
  rw [MakeChecks.laidMetH_plain _ _ _ hp] at h
  obtain ⟨ps, hL, _⟩ := h
  intro g cs hgc
  exact ⟨fun i v hv => by rw [tabOf_ok laid tab ps ht hL g cs (hg g cs hgc) i]; exact hv, fun _ i => tabOf_ok laid tab ps ht hL g cs (hg g cs hgc) i⟩
end Go.Proofs.YtiajbijbhhpllaaDoor
namespace Go.Proofs.YtiajbijbhhpllaaDoor
open Sim Go.ChangeShapes Go.WideShapes Go.ChangeAt Go.RowKit
def wordCells : List Value := (wordL.take 77).map fun x => .int .u32 x
def fieldCells : List Value := fieldL.map fun x => .int .i64 x
def tab5 : List (Nat × List Value) := (12, wordCells) :: (11, fieldCells) :: tabGl.map fun p => (p.1, p.2.map fun x => .int .i64 x)
theorem findG_mem {g : Nat} {cs : List Value} : ∀ (l : List (Nat × List Int)), findG l g = some cs → (g, cs) ∈ l.map fun p => (p.1, p.2.map fun x => Value.int .i64 x)
  | [], h => by cases h
  | (k, x) :: r, h => by
    unfold findG at h
    cases hb : Nat.beq g k
    · rw [hb] at h
      exact List.mem_cons_of_mem _ (findG_mem r h)
    · rw [hb] at h
      simp only [cond_true, Option.some.injEq] at h
      subst h
      rw [Nat.eq_of_beq_eq_true hb]; exact List.mem_cons_self
theorem decGl_mem (g : Nat) (cs : List Value) (h : decGl g = some cs) : (g, cs) ∈ tab5 := by
  unfold decGl at h
  split at h
  · rename_i cs' he
    simp only [Option.some.injEq] at h
    subst h
    unfold encGl at he
    cases hb : Nat.beq g 12
    · rw [hb] at he
      simp only [cond_false] at he
      cases hb2 : Nat.beq g 11
      · rw [hb2] at he; cases he
      · rw [hb2] at he
        simp only [cond_true, Option.some.injEq] at he
        subst he
        rw [Nat.eq_of_beq_eq_true hb2]
        exact List.mem_cons_of_mem _ List.mem_cons_self
    · rw [hb] at he
      simp only [cond_true, Option.some.injEq] at he
      subst he
      rw [Nat.eq_of_beq_eq_true hb]
      exact List.mem_cons_self
  · exact List.mem_cons_of_mem _ (List.mem_cons_of_mem _ (findG_mem _ h))
theorem dec_of_laid {W : World} (h : laidMetH Tryd.prog [("spinnaker/enc.words", Rows.laid_spinnaker_enc_words), ("spinnaker/enc.fields", Rows.laid_spinnaker_enc_fields), ("spinnaker/dec.branches", Rows.laid_spinnaker_dec_branches), ("spinnaker/dec.loads", Rows.laid_spinnaker_dec_loads), ("spinnaker/dec.stores", Rows.laid_spinnaker_dec_stores), ("spinnaker/dec.immediates", Rows.laid_spinnaker_dec_immediates), ("spinnaker/dec.sums", Rows.laid_spinnaker_dec_sums), ("spinnaker/dec.others", Rows.laid_spinnaker_dec_others), ("spinnaker/dec.products", Rows.laid_spinnaker_dec_products), ("spinnaker/dec.immediatesW", Rows.laid_spinnaker_dec_immediatesW), ("spinnaker/dec.sumsW", Rows.laid_spinnaker_dec_sumsW), ("spinnaker/dec.othersW", Rows.laid_spinnaker_dec_othersW), ("spinnaker/dec.productsW", Rows.laid_spinnaker_dec_productsW)] W) : GlobOk decGl W :=
  globs_of_laid (k := 5) (tab := tab5) (by kernel_rfl) (by kernel_rfl) decGl_mem h
end Go.Proofs.YtiajbijbhhpllaaDoor
namespace Go.Proofs.YtiajbijbhhpllaaDoor
open Go Go.RowKit
def Hb (w : World) (b : Nat) (t : TypeId) (N : Nat) (f : Nat → Value) : Prop :=
  ∃ cs : Array Value, w.heap[b]? = some (.cells cs t (0, 0)) ∧ N ≤ cs.size ∧ ∀ i, i < N → cs[i]? = some (f i)
def updF {α : Type} (f : Nat → α) (i : Nat) (v : α) : Nat → α := fun j => if j = i then v else f j
theorem updF_same {α : Type} (f : Nat → α) (i : Nat) (v : α) : updF f i v i = v := by simp [updF]
theorem updF_other {α : Type} (f : Nat → α) {i j : Nat} (v : α) (h : j ≠ i) : updF f i v j = f j := by simp [updF, h]
section
variable {w w' : World} {b N : Nat} {t : TypeId} {f g : Nat → Value}
theorem Hb.lt (h : Hb w b t N f) : b < w.heap.size := by
  obtain ⟨cs, h1, _⟩ := h
  exact (Array.getElem?_eq_some_iff.1 h1).1
theorem Hb.cell (h : Hb w b t N f) {i : Nat} (hi : i < N) : w.cell? ⟨b, i, none⟩ = some (f i) := by
  obtain ⟨cs, h1, h2, h3⟩ := h
  simp [World.cell?, h1, h3 i hi]
theorem Hb.free (h : Hb w b t N f) (i : Nat) : w.frozen? ⟨b, i, none⟩ = false := by
  obtain ⟨cs, h1, h2, h3⟩ := h
  simp [World.frozen?, h1]
theorem Hb.congr (h : Hb w b t N f) (hg : ∀ i, i < N → f i = g i) : Hb w b t N g := by
  obtain ⟨cs, h1, h2, h3⟩ := h
  exact ⟨cs, h1, h2, fun i hi => by rw [h3 i hi, hg i hi]⟩
theorem Hb.same (h : Hb w b t N f) (hb : w'.heap[b]? = w.heap[b]?) : Hb w' b t N f := by
  obtain ⟨cs, h1, h2⟩ := h
  exact ⟨cs, hb.trans h1, h2⟩
theorem Hb.set (h : Hb w b t N f) {i : Nat} (v : Value) : Hb (w.setCell ⟨b, i, none⟩ v) b t N (updF f i v) := by
  obtain ⟨cs, h1, h2, h3⟩ := h
  have hlt := (Array.getElem?_eq_some_iff.1 h1).1
  refine ⟨cs.setIfInBounds i v, ?_, by simpa using h2, fun j hj => ?_⟩
  · have h' : w.heap[b] = .cells cs t (0, 0) := (Array.getElem?_eq_some_iff.1 h1).2
    show (w.heap.modify b _)[b]? = _
    rw [Array.getElem?_eq_getElem (by simpa using hlt), Array.getElem_modify_self, h']
    rfl
  · by_cases hji : j = i
    · subst hji
      rw [updF_same, Array.getElem?_setIfInBounds_self_of_lt (by omega)]
    · rw [updF_other _ _ hji, Array.getElem?_setIfInBounds_ne (by omega), h3 j hj]
theorem Hb.new (w : World) (cs : Array Value) (t : TypeId) (hf : ∀ i, i < cs.size → cs[i]? = some (f i)) : Hb (w.alloc (.cells cs t)) w.heap.size t cs.size f :=
  ⟨cs, World.alloc_heap_new w _, Nat.le_refl _, hf⟩
theorem Hb.alloc (h : Hb w b t N f) (o : Obj) : Hb (w.alloc o) b t N f := h.same (Below.heap_alloc w o b h.lt)
theorem Hb.other (h : Hb w b t N f) {a : Addr} (ha : b ≠ a.block) (v : Value) : Hb (w.setCell a v) b t N f := h.same (Below.heap_setCell w a v b ha)
theorem Hb.below {B : Nat} (h : Hb w b t N f) (hb : Below B w w') (hlt : b < B) : Hb w' b t N f := h.same (hb.block b hlt)
end
structure Fr (T : List Nat) (w w' : World) : Prop where
  os : w'.os = w.os
  tape : w'.tape = w.tape
  output : w'.output = w.output
  size : w.heap.size ≤ w'.heap.size
  block : ∀ k, k < w.heap.size → k ∉ T → w'.heap[k]? = w.heap[k]?
theorem Fr.refl (T : List Nat) (w : World) : Fr T w w := ⟨rfl, rfl, rfl, Nat.le_refl _, fun _ _ _ => rfl⟩
theorem Fr.trans {T : List Nat} {a b c : World} (h : Fr T a b) (k : Fr T b c) : Fr T a c :=
  ⟨k.os.trans h.os, k.tape.trans h.tape, k.output.trans h.output, Nat.le_trans h.size k.size, fun i hi ht => (k.block i (Nat.lt_of_lt_of_le hi h.size) ht).trans (h.block i hi ht)⟩
theorem Fr.mono {T T' : List Nat} {a b : World} (h : Fr T a b) (hs : ∀ k, k < a.heap.size → k ∈ T → k ∈ T') : Fr T' a b :=
  ⟨h.os, h.tape, h.output, h.size, fun i hi ht => h.block i hi (fun hc => ht (hs i hi hc))⟩
theorem Fr.set {T : List Nat} {a w : World} (h : Fr T a w) {p : Addr} (hp : a.heap.size ≤ p.block ∨ p.block ∈ T) (u : Value) : Fr T a (w.setCell p u) := by
  refine ⟨h.os, h.tape, h.output, by simpa [World.setCell] using h.size, fun k hk ht => (Below.heap_setCell w p u k ?_).trans (h.block k hk ht)⟩
  rintro rfl
  rcases hp with hp | hp
  · omega
  · exact ht hp
theorem Fr.alloc {T : List Nat} {a w : World} (h : Fr T a w) (o : Obj) : Fr T a (w.alloc o) :=
  ⟨h.os, h.tape, h.output, by have := h.size; simp; omega, fun k hk ht => (Below.heap_alloc w o k (Nat.lt_of_lt_of_le hk h.size)).trans (h.block k hk ht)⟩
theorem Fr.drew {T : List Nat} {a w : World} (h : Fr T a w) : Fr T a w.drew := ⟨h.os, h.tape, h.output, h.size, h.block⟩
theorem Fr.below {B : Nat} {T : List Nat} {a w w' : World} (h : Below B a w) (k : Fr T w w') (hB : B ≤ w.heap.size) (ht : ∀ i, i ∈ T → B ≤ i) : Below B a w' :=
  h.trans ⟨k.os, k.tape, k.output, k.size, fun i hi => k.block i (by omega) (fun hc => by have := ht i hc; omega)⟩
theorem Fr.of_below {T : List Nat} {w w' : World} (h : Below w.heap.size w w') : Fr T w w' := ⟨h.os, h.tape, h.output, h.size, fun k hk _ => h.block k hk⟩
theorem Fr.to_below {w w' : World} (h : Fr [] w w') : Below w.heap.size w w' := ⟨h.os, h.tape, h.output, h.size, fun k hk => h.block k hk (by simp)⟩
theorem Hb.fr {w w' : World} {b N : Nat} {t : TypeId} {f : Nat → Value} {T : List Nat} (h : Hb w b t N f) (hf : Fr T w w') (hb : b ∉ T) : Hb w' b t N f := h.same (hf.block b h.lt hb)
end Go.Proofs.YtiajbijbhhpllaaDoor
namespace Go.Proofs.YtiajbijbhhpllaaDoor
open Go Go.RowKit
def wdN (g : Nat → Bool) : Nat → Nat
  | 0 => 0
  | k + 1 => wdN g k + (if g k = true then 2 ^ k else 0)
def wd (f : Nat → Bool) (i : Nat) : Nat := wdN (fun j => f (64 * i + j)) 64
abbrev u64V (x : Nat) : Value := .int .u64 (x : Int)
end Go.Proofs.YtiajbijbhhpllaaDoor
namespace Go.Proofs.YtiajbijbhhpllaaDoor
open Go Go.RowKit
def updR (F : Nat → Value) (o : Nat) (vs : List Value) : Nat → Value := fun k => if o ≤ k ∧ k < o + vs.length then vs.getD (k - o) undef else F k
theorem updR_out {F : Nat → Value} {o k : Nat} {vs : List Value} (h : k < o ∨ o + vs.length ≤ k) : updR F o vs k = F k := by
  unfold updR; rw [if_neg (by omega)]
theorem updR_in {F : Nat → Value} {o : Nat} {vs : List Value} {j : Nat} (h : j < vs.length) : updR F o vs (o + j) = vs.getD j undef := by
  unfold updR; rw [if_pos ⟨by omega, by omega⟩, Nat.add_sub_cancel_left]
section
variable {w : World} {b N : Nat} {t : TypeId} {F : Nat → Value}
theorem Hb.range (h : Hb w b t N F) {o : Nat} {vs : List Value} (hv : ∀ j, j < vs.length → vs[j]? = some (F (o + j))) (hn : o + vs.length ≤ N) : w.rangeAt b o vs := fun j v hj => by
  have hl : j < vs.length := (List.getElem?_eq_some_iff.1 hj).1
  rw [h.cell (by omega), ← hv j hl, hj]
theorem Hb.there (h : Hb w b t N F) {o n : Nat} (hn : o + n ≤ N) : w.there b o n := fun j hj => ⟨by rw [h.cell (by omega)]; rfl, h.free _⟩
theorem Hb.sets : ∀ {vs : List Value} {w : World} {F : Nat → Value} {o : Nat}, Hb w b t N F → Hb (w.setCells b o vs) b t N (updR F o vs)
  | [], w, F, o, h => h.congr fun i _ => by rw [updR_out (by simp; omega)]
  | v :: r, w, F, o, h => by
    rw [World.setCells]
    refine (Hb.sets (vs := r) (h.set v)).congr fun i hi => ?_
    unfold updR updF
    by_cases h1 : i = o
    · subst h1; rw [if_neg (by omega), if_pos rfl, if_pos ⟨by omega, by simp⟩, Nat.sub_self]; rfl
    · by_cases h2 : o + 1 ≤ i ∧ i < o + 1 + r.length
      · rw [if_pos h2, if_pos ⟨by omega, by simp; omega⟩, show i - o = i - (o + 1) + 1 by omega]; simp
      · rw [if_neg h2, if_neg h1, if_neg (by simp; omega)]
end
theorem Fr.sets {T : List Nat} {a : World} {b : Nat} (hp : a.heap.size ≤ b ∨ b ∈ T) : ∀ (vs : List Value) {w : World} (o : Nat), Fr T a w → Fr T a (w.setCells b o vs)
  | [], _, _, h => h
  | v :: r, w, o, h => by
    rw [World.setCells]
    exact Fr.sets hp r (o + 1) (h.set hp v)
structure Rg where
  v : Int
  k : Bool
  s : Nat → Bool
def regC (r : Rg) (j : Nat) : Value := if j = 0 then .int .i64 r.v else if j = 1 then .bool r.k else u64V (wd r.s (j - 2))
theorem regL_ex : ∃ f : Rg → List Value, ∀ r, f r = (List.range 18).map (regC r) := ⟨_, fun _ => rfl⟩
noncomputable def regL : Rg → List Value := Classical.choose regL_ex
theorem regL_eq (r : Rg) : regL r = (List.range 18).map (regC r) := Classical.choose_spec regL_ex r
theorem regV_ex : ∃ f : Rg → Value, ∀ r, f r = .agg (regL r).toArray := ⟨_, fun _ => rfl⟩
noncomputable def regV : Rg → Value := Classical.choose regV_ex
theorem regV_def (r : Rg) : regV r = .agg (regL r).toArray := Classical.choose_spec regV_ex r
theorem regL_get (r : Rg) {j : Nat} (h : j < 18) : (regL r)[j]? = some (regC r j) := by simp [regL_eq, h]
abbrev regA (r : Rg) : Array Value := #[.int .i64 r.v, .bool r.k, u64V (wd r.s 0), u64V (wd r.s 1), u64V (wd r.s 2), u64V (wd r.s 3), u64V (wd r.s 4), u64V (wd r.s 5), u64V (wd r.s 6), u64V (wd r.s 7), u64V (wd r.s 8), u64V (wd r.s 9), u64V (wd r.s 10), u64V (wd r.s 11), u64V (wd r.s 12), u64V (wd r.s 13), u64V (wd r.s 14), u64V (wd r.s 15)]
theorem regV_eq (r : Rg) : regV r = .agg (regA r) := by simp [regV_def, regL_eq, regC, List.range, List.range.loop]
theorem regA_get (r : Rg) : ∀ i, i < 18 → (regA r)[i]? = some (regC r i) := fun i hi => by
  have h : regV r = .agg (regA r) := regV_eq r
  rw [regV_def] at h
  injection h with h
  rw [← h, List.getElem?_toArray, regL_get r hi]
theorem Hb.reg (w : World) (r : Rg) (t : TypeId) : Hb (w.alloc (.cells (regA r) t)) w.heap.size t 18 (regC r) := Hb.new w (regA r) t (fun i hi => regA_get r i hi)
theorem ret_cell2 {P : Program} {fn : Func} {tmps : Array Value} {s s' : Tmp} {t : TypeId} {b o : Nat} {v v' : Value} {w : World} (hr : fn.results = #[.cell s t, .tmp s']) (hs : tmps.getD s undef = .pointer (some ⟨b, o, none⟩)) (hs' : tmps.getD s' undef = v') (hl : (loadVar t ⟨b, o, none⟩).run P w = .ok v w) : (results fn tmps).run P w = .ok (.tuple #[v, v']) w := by
  unfold results
  rw [hr]
  rw [Array.getD_eq_getD_getElem?] at hs hs'
  simp [hs, hs', asAddr, hl, Sem.run_bind]
section
variable {w : World} {b N o : Nat} {t : TypeId} {F : Nat → Value} {r : Rg} {s : Nat → Bool}
end
end Go.Proofs.YtiajbijbhhpllaaDoor
namespace Go.Proofs.YtiajbijbhhpllaaDoor
open Go Go.RowKit
section
variable {P : Program} {ops : Array Oper} {Q : Exit → Act → World → Prop} {md : Region.Mode} {S : World → Prop}
theorem run_store {a : Act} {w w' : World} {o : Oper} (ty : TypeId) (x y : Operand) (hop : o.op = .store ty x y) {b f : Nat} {v : Value} (hx : a.eval x = .pointer (some ⟨b, f, none⟩)) (hy : a.eval y = v) (hr : (storeVar ty ⟨b, f, none⟩ v).run P w = .ok () w') : (execOp a.eval o).run P w = .ok .skip w' := by
  unfold execOp
  simp only [hop, hx, hy, Instr.storeAt, Instr.sureAddr, Sem.run_bind, Sem.run_pure, Result.andThen_ok, hr]
end
end Go.Proofs.YtiajbijbhhpllaaDoor
namespace Go.Proofs.YtiajbijbhhpllaaDoor
open Go Go.RowKit
theorem Fr.grown {T : List Nat} {a w w' : World} {row : Option Nat} (h : Fr T a w) (hg : w.grownBy w' row) (hr : ∀ b, row = some b → b ∈ T ∨ a.heap.size ≤ b) : Fr T a w' :=
  ⟨hg.os.trans h.os, hg.tape.trans h.tape, hg.output.trans h.output, Nat.le_trans h.size hg.size, fun k hk ht => (hg.block k (Nat.lt_of_lt_of_le hk h.size) (fun e => by
    rcases hr k e.symm with h1 | h1
    · exact ht h1
    · omega)).trans (h.block k hk ht)⟩
theorem wp_ld_of {ops : Array Oper} {rest : List Oper} {op : Oper} {a : Act} {w : World} {Q : Exit → Act → World → Prop} (hgd : op.guard = none) (ty : TypeId) (x : Operand) (ho : op.op = .load ty x) {b o : Nat} {v : Value} (hx : a.eval x = .pointer (some ⟨b, o, none⟩)) (hr : (loadVar ty ⟨b, o, none⟩).run Tryd.prog w = .ok v w)
    (h : wpList Tryd.prog ops Q rest (a.put op.dst v) w) : wpList Tryd.prog ops Q (op :: rest) a w :=
  wpList_plain hgd fun _ hK => by
    unfold Oper.wp execOp
    simp only [ho, hx, Instr.loadAt, Instr.sureAddr, Sem.run_bind, Sem.run_pure, Result.andThen_ok, hr]
    exact hK _ _ h
abbrev inA (i : In) : Array Value := #[.int .i64 i.op, .int .i64 i.rd, .int .i64 i.a, .int .i64 i.b, .int .i64 i.imm, .bool i.aq, .bool i.rl]
def inC (i : In) (k : Nat) : Value := (inA i).getD k undef
theorem instrInfo : (Tryd.prog.info? 32).map (·.size) = some 7 := by kernel_rfl
theorem inA_get (i : In) : ∀ k, k < 7 → (inA i).toList[k]? = some (inC i k) := fun k hk => by
  have : k = 0 ∨ k = 1 ∨ k = 2 ∨ k = 3 ∨ k = 4 ∨ k = 5 ∨ k = 6 := by omega
  rcases this with rfl | rfl | rfl | rfl | rfl | rfl | rfl <;> rfl
theorem load_instr {w : World} {b o N : Nat} {t : TypeId} {F : Nat → Value} (h : Hb w b t N F) (i : In) (hF : ∀ k, k < 7 → F (o + k) = inC i k) (hn : o + 7 ≤ N) : (loadVar 32 ⟨b, o, none⟩).run Tryd.prog w = .ok (.agg (inA i)) w :=
  run_loadVar_mid w b o _ (inA i).toList _ (h.range (fun j hj => by
    have hj : j < 7 := by simpa using hj
    rw [inA_get i j hj, hF j hj]) (by simpa using hn)) Tryd.underlying32 rfl instrInfo
section
variable {ops : Array Oper} {rest : List Oper} {op : Oper} {a : Act} {w : World} {Q : Exit → Act → World → Prop}
theorem wp_st_of (hgd : op.guard = none) (ty : TypeId) (x y : Operand) (ho : op.op = .store ty x y) {g : Nat} {v : Value} {w' : World} (hx : a.eval x = .pointer (some ⟨g, 0, none⟩)) (hy : a.eval y = v) (hr : (storeVar ty ⟨g, 0, none⟩ v).run Tryd.prog w = .ok () w')
    (h : wpList Tryd.prog ops Q rest (a.put op.dst undef) w') : wpList Tryd.prog ops Q (op :: rest) a w :=
  wpList_plain hgd fun _ hK => by
    unfold Oper.wp execOp
    simp only [ho, hx, hy, Instr.storeAt, Instr.sureAddr, Sem.run_bind, Sem.run_pure, Result.andThen_ok, hr]
    exact hK _ _ h
end
def arrF (a : Array Value) (k : Nat) : Value := a.getD k undef
theorem Hb.arr (W : World) (a : Array Value) (t : TypeId) : Hb (W.alloc (.cells a t)) W.heap.size t a.size (arrF a) := Hb.new W a t (f := arrF a) (fun k hk => by simp [arrF, Array.getD, hk])
end Go.Proofs.YtiajbijbhhpllaaDoor
namespace Go.Proofs.YtiajbijbhhpllaaDoor
open Go Go.RowKit
structure Ez where
  pc : Int
  i : In
  next : Int
  addr : Int
  kn : Bool
  bad : Int
  val : Int
  ry : Bool
  dn : Bool
  fl : Bool
  sh : Int
  sa : Int
abbrev ezR (e : Ez) : Array Value := #[.int .i64 e.pc, .int .i64 e.i.op, .int .i64 e.i.rd, .int .i64 e.i.a, .int .i64 e.i.b, .int .i64 e.i.imm, .bool e.i.aq, .bool e.i.rl, .int .i64 e.next, .int .i64 e.addr, .bool e.kn, .int .i64 e.bad, .int .i64 e.val, .bool e.ry, .bool e.dn, .bool e.fl, .int .i64 e.sh, .int .i64 e.sa]
def ezF (e : Ez) (k : Nat) : Value := (ezR e).getD k undef
theorem lt18 {P : Nat → Prop} (h : P 0 ∧ P 1 ∧ P 2 ∧ P 3 ∧ P 4 ∧ P 5 ∧ P 6 ∧ P 7 ∧ P 8 ∧ P 9 ∧ P 10 ∧ P 11 ∧ P 12 ∧ P 13 ∧ P 14 ∧ P 15 ∧ P 16 ∧ P 17) : ∀ k, k < 18 → P k := fun k hk => by
  obtain ⟨h0, h1, h2, h3, h4, h5, h6, h7, h8, h9, h10, h11, h12, h13, h14, h15, h16, h17⟩ := h
  have : k = 0 ∨ k = 1 ∨ k = 2 ∨ k = 3 ∨ k = 4 ∨ k = 5 ∨ k = 6 ∨ k = 7 ∨ k = 8 ∨ k = 9 ∨ k = 10 ∨ k = 11 ∨ k = 12 ∨ k = 13 ∨ k = 14 ∨ k = 15 ∨ k = 16 ∨ k = 17 := by omega
  rcases this with rfl | rfl | rfl | rfl | rfl | rfl | rfl | rfl | rfl | rfl | rfl | rfl | rfl | rfl | rfl | rfl | rfl | rfl <;> assumption
theorem ezR_get (e : Ez) : ∀ k, k < 18 → (ezR e).toList[k]? = some (ezF e k) := lt18 (by simp [ezF])
def EzA (w : World) (b o : Nat) (e : Ez) : Prop := ∀ k, k < 18 → w.cell? ⟨b, o + k, none⟩ = some (ezF e k)
theorem EzA.lt {w : World} {b o : Nat} {e : Ez} (h : EzA w b o e) : b < w.heap.size := by
  have h0 := h 0 (by omega)
  unfold World.cell? at h0
  cases hh : w.heap[b]? with
  | none => simp [hh] at h0
  | some x => exact (Array.getElem?_eq_some_iff.1 hh).1
theorem EzA.below {w w' : World} {b o : Nat} {e : Ez} (h : EzA w b o e) {B : Nat} (hb : Below B w w') (hl : b < B) : EzA w' b o e := fun k hk => (hb.cell (p := ⟨b, _, none⟩) hl).trans (h k hk)
theorem Hb.ez {w : World} {b o N : Nat} {t : TypeId} {f : Nat → Value} {e : Ez} (h : Hb w b t N f) (hf : ∀ k, k < 18 → f (o + k) = ezF e k) (ho : o + 18 ≤ N) : EzA w b o e := fun k hk => by
  rw [h.cell (i := o + k) (by omega), hf k hk]
theorem ezInfo : (Tryd.prog.info? 36).map (·.size) = some 18 := by kernel_rfl
theorem load_ez {W : World} {b o : Nat} {e : Ez} (h : EzA W b o e) : (loadVar 36 ⟨b, o, none⟩).run Tryd.prog W = .ok (.agg (ezR e)) W :=
  run_loadVar_mid W b o _ (ezR e).toList _ (fun j v hj => by
    have hl : j < 18 := (List.getElem?_eq_some_iff.1 hj).1
    rw [h j hl, ← hj, ezR_get e j hl]) Tryd.underlying36 rfl ezInfo
theorem Hb.newEz (W : World) (e : Ez) (t : TypeId) : Hb (W.alloc (.cells (ezR e) t)) W.heap.size t 18 (ezF e) := Hb.new W (ezR e) t (f := ezF e) (fun k hk => by
  have := ezR_get e k hk
  rwa [Array.getElem?_toList] at this)
def EnL (w : World) (q : Option Addr) (n : Nat) (E : Nat → Ez) : Prop := 0 < n → ∃ b o, q = some ⟨b, o, none⟩ ∧ ∀ i, i < n → EzA w b (o + i * 18) (E i)
theorem EnL.below {w w' : World} {q : Option Addr} {n : Nat} {E : Nat → Ez} (h : EnL w q n E) (hb : Below w.heap.size w w') : EnL w' q n E := fun hn => by
  obtain ⟨b, o, hq, hE⟩ := h hn
  exact ⟨b, o, hq, fun i hi => (hE i hi).below hb (hE i hi).lt⟩
def winF (rg : Nat → Int) (v : Value) (k : Nat) : Value := if k < 32 then .int .i64 (rg k) else v
def wrZ (e : Ez) (r : Int) : Bool := mayB e.i && e.i.rd == r
def regZ (rg : Nat → Int) (E : Nat → Ez) (r : Int) : Nat → Int × Bool
  | 0 => (rg r.toNat, true)
  | k + 1 => if wrZ (E k) r then (if (E k).ry then ((E k).val, true) else (0, false)) else regZ rg E r k
def regY (rg : Nat → Int) (E : Nat → Ez) (n : Nat) (i r : Int) : Int × Bool :=
  if r ≤ 0 ∨ 32 ≤ r then (0, true) else regZ rg E r (min i.toNat n)
end Go.Proofs.YtiajbijbhhpllaaDoor
namespace Go.Proofs.YtiajbijbhhpllaaDoor
open Go Go.RowKit
structure Kc (ok : Nat → TypeId → Prop) (W W' : World) : Prop where
  size : W.heap.size ≤ W'.heap.size
  cells : ∀ k cs t fz, W.heap[k]? = some (.cells cs t fz) → ¬ ok k t → W'.heap[k]? = some (.cells cs t fz)
  objs : ∀ (k : Nat) (o : Obj), W.heap[k]? = some o → o.isCells = false → W'.heap[k]? = some o
section
variable {ok : Nat → TypeId → Prop} {A B C : World}
theorem Kc.refl (ok : Nat → TypeId → Prop) (A : World) : Kc ok A A := ⟨Nat.le_refl _, fun _ _ _ _ h _ => h, fun _ _ h _ => h⟩
theorem Kc.trans (h : Kc ok A B) (k : Kc ok B C) : Kc ok A C := ⟨Nat.le_trans h.size k.size, fun i cs t fz hi h1 => k.cells i cs t fz (h.cells i cs t fz hi h1) h1, fun i o hi ho => k.objs i o (h.objs i o hi ho) ho⟩
theorem Kc.alloc (h : Kc ok A B) (o : Obj) : Kc ok A (B.alloc o) := ⟨by have := h.size; simp; omega, fun i cs t fz hi h1 => by
  have := h.cells i cs t fz hi h1
  exact (Below.heap_alloc B o i (Array.getElem?_eq_some_iff.1 this).1).trans this, fun i o' hi ho => by
  have := h.objs i o' hi ho
  exact (Below.heap_alloc B o i (Array.getElem?_eq_some_iff.1 this).1).trans this⟩
theorem setCell_obj {w : World} {k : Nat} {o : Obj} (h : w.heap[k]? = some o) (ho : o.isCells = false) (a : Addr) (v : Value) : (w.setCell a v).heap[k]? = some o := by
  by_cases hk : k = a.block
  · subst hk
    have hlt := (Array.getElem?_eq_some_iff.1 h).1
    have h' : w.heap[a.block] = o := (Array.getElem?_eq_some_iff.1 h).2
    show (w.heap.modify a.block _)[a.block]? = _
    rw [Array.getElem?_eq_getElem (by simpa using hlt), Array.getElem_modify_self, h']
    cases o <;> first | rfl | cases ho
  · exact (Below.heap_setCell w a v k hk).trans h
theorem Kc.set (h : Kc ok A B) {p : Addr} (hp : (∃ cs t fz, B.heap[p.block]? = some (.cells cs t fz) ∧ ok p.block t) ∨ A.heap.size ≤ p.block) (v : Value) : Kc ok A (B.setCell p v) := ⟨by have := h.size; simpa [World.setCell] using this, fun i cs t fz hi h1 => by
  have h3 := h.cells i cs t fz hi h1
  refine (Below.heap_setCell B p v i ?_).trans h3
  rintro rfl
  rcases hp with ⟨cs', t', fz', hc, ht⟩ | hp
  · rw [hc] at h3; cases h3; exact h1 ht
  · have := (Array.getElem?_eq_some_iff.1 hi).1; omega, fun i o hi ho => setCell_obj (h.objs i o hi ho) ho _ _⟩
theorem Kc.drew (h : Kc ok A B) : Kc ok A B.drew := ⟨h.size, h.cells, h.objs⟩
theorem Kc.of_fr {U : List Nat} (h : Fr U A B) (hU : ∀ k, k ∈ U → k < A.heap.size → ∃ cs t fz, A.heap[k]? = some (.cells cs t fz) ∧ ok k t) : Kc ok A B := ⟨h.size, fun i cs t fz hi h1 => by
  have hlt := (Array.getElem?_eq_some_iff.1 hi).1
  refine (h.block i hlt fun hc => ?_).trans hi
  obtain ⟨cs', t', fz', h2, h3⟩ := hU i hc hlt
  rw [h2] at hi; cases hi; exact h1 h3, fun i o hi ho => by
  have hlt := (Array.getElem?_eq_some_iff.1 hi).1
  refine (h.block i hlt fun hc => ?_).trans hi
  obtain ⟨cs', t', fz', h2, h3⟩ := hU i hc hlt
  rw [h2] at hi; cases hi; cases ho⟩
theorem Kc.of_below (h : Below A.heap.size A B) : Kc ok A B := Kc.of_fr (U := []) (Fr.of_below h) (by simp)
theorem Kc.keeps (h : Kc ok A B) (n : Nat) : KeepsFrom n A B := ⟨h.size, fun k o _ h1 h2 => h.objs k o h1 h2⟩
theorem Hb.kc {b N : Nat} {t : TypeId} {f : Nat → Value} (h : Hb A b t N f) (hk : Kc ok A B) (hb : ¬ ok b t) : Hb B b t N f := by
  obtain ⟨cs, h1, h2, h3⟩ := h
  exact ⟨cs, hk.cells _ _ _ _ h1 hb, h2, h3⟩
theorem Hb.obj {b N : Nat} {t : TypeId} {f : Nat → Value} (h : Hb A b t N f) : ∃ cs fz, A.heap[b]? = some (.cells cs t fz) := by
  obtain ⟨cs, h1, _⟩ := h
  exact ⟨cs, _, h1⟩
end
theorem Hb.putO {w : World} {b N : Nat} {t : TypeId} {f : Nat → Value} (h : Hb w b t N f) {l : Nat} {o : Obj} (o' : Obj) (hl : w.heap[l]? = some o) (ho : o.isCells = false) : Hb (w.putObj l o') b t N f := h.same (World.putObj_heap_other fun e => by
  obtain ⟨cs, fz, hc⟩ := h.obj
  rw [e, hl] at hc; cases hc; cases ho)
theorem ownFrom_hb {β : Type} (B b N : Nat) (t : TypeId) (f : Nat → Value) : OwnFrom B (fun (_ : β) W => Hb W b t N f) := fun s W W' row hs hg hr => hs.same (hg.block b hs.lt fun e => by
  obtain ⟨_, o, ho, hc⟩ := hr b e.symm
  obtain ⟨cs, fz, h⟩ := hs.obj
  rw [h] at ho; cases ho; cases hc)
theorem ownFrom_up {β : Type} {B B' : Nat} {I : β → World → Prop} (h : OwnFrom B I) (hB : B ≤ B') : OwnFrom B' I := fun s W W' row hs hg hr => h s W W' row hs hg fun r e => ⟨Nat.le_trans hB (hr r e).1, (hr r e).2⟩
def Tells (st : Bool) (P : Program) (g : Nat) (lb : Array Value) (xs : List (Array Value)) (ok : Nat → TypeId → Prop) (w : World) : Prop :=
  ∀ (l : Nat) (J Jx : Nat → World → Prop) (W : World), Kc ok w W → OwnFrom W.heap.size J → OwnFrom W.heap.size Jx →
    (∀ k x W1 m, xs[k]? = some x → J k W1 → YieldAt Fence.wide m P l x W1 fun e W' => (e = .returned (.bool true) ∧ J (k + 1) W' ∧ Kc ok W1 W') ∨ (st = true ∧ e = .returned (.bool false) ∧ Jx k W')) →
    J 0 W → ∀ m, CallsIn Fence.wide m P g (#[.func (.yield l) #[] #[]] ++ lb) W fun e W' => (∃ v, e = .returned v) ∧ (J xs.length W' ∨ ∃ k, k < xs.length ∧ Jx k W')
def bPost (st : Bool) (B : Nat) (ok : Nat → TypeId → Prop) (I : Nat → World → Prop) (Ix : Code → Nat → World → Prop) (k : Nat) (W : World) : Exit → Act → World → Prop
  | .normal, _, W' => Kc ok W W' ∧ I (k + 1) W'
  | .ret, _, W' => st = true ∧ KeepsFrom B W W' ∧ Ix .ret k W'
  | .exit id, _, W' => st = true ∧ KeepsFrom B W W' ∧ Ix (.exit id) k W'
  | _, _, _ => False
def marks (Ds : List Nat) : List Deferred := Ds.map fun D => { target := .collected D, args := #[] }
theorem leave_marks {P : Program} {n : Nat} {fn : Func} {tmps : Array Value} {R : Ending → World → Prop} (v : Value) (Rv : World → Prop) (hres : ∀ W, Rv W → (results fn tmps).run P W = .ok v W) (hR : ∀ W, Rv W → R (.returned v) W) :
    ∀ (Ds : List Nat) (w : World), Ds.Nodup → (∀ D, D ∈ Ds → w.heap[D]? = some (.deferred (some []))) → (∀ D W, D ∈ Ds → W.heap[D]? = some (.deferred (some [])) → Rv W → Rv (W.putObj D (.deferred none))) → Rv w → LeavesInM Fence.wide n P fn tmps R (marks Ds) .returning w
  | [], w, _, _, _, h => ⟨_, hres w h, hR w h⟩
  | D :: Ds, w, hn, hd, hp, h => by
    have h1 := hd D List.mem_cons_self
    refine ⟨by simp, .inl ⟨_, _, rfl, run_takeDeferred h1, leave_marks v Rv hres hR Ds _ (List.nodup_cons.1 hn).2 (fun D' h' => ?_) (fun D' W h' => hp D' W (List.mem_cons_of_mem _ h')) (hp D w List.mem_cons_self h1 h)⟩⟩
    refine (World.putObj_heap_other ?_).trans (hd D' (List.mem_cons_of_mem _ h'))
    rintro rfl
    exact (List.nodup_cons.1 hn).1 h'
section
variable {P : Program} {n : Nat} {g : Operand} {ps : Array Tmp} {assign body : Code} {Q : Exit → Act → World → Prop} {a : Act} {w : World}
end
end Go.Proofs.YtiajbijbhhpllaaDoor
namespace Go.Proofs.YtiajbijbhhpllaaDoor
open Go Go.RowKit
def bwdL (E : Nat → Ez) (n : Nat) : List (Array Value) := (List.range n).map fun k => #[.int .i64 ((n - 1 - k : Nat) : Int), .agg (ezR (E (n - 1 - k)))]
theorem bwdL_len (E : Nat → Ez) (n : Nat) : (bwdL E n).length = n := by simp [bwdL]
theorem bwdL_get (E : Nat → Ez) {n j : Nat} (h : j < n) : (bwdL E n)[n - 1 - j]? = some #[.int .i64 (j : Int), .agg (ezR (E j))] := by
  unfold bwdL
  rw [List.getElem?_map, List.getElem?_range (by omega)]
  have : n - 1 - (n - 1 - j) = j := by omega
  simp [this]
theorem bwd_make (q : Option Addr) (n cap : Nat) (w : World) (F : Fence) (m : Nat) (hF : F.fn 13) (hro : F.round = none) : CallsIn F m Tryd.prog 13 #[.slice q n cap] w fun e w' => e = .returned (.func (.func 29) #[] #[.pointer (some ⟨w.heap.size, 0, none⟩)]) ∧ w' = w.alloc (.cells #[.slice q n cap] 40) := by
  refine callsIn_of_wp Tryd.func13 rfl hF ?_ hro
  simp only [Tryd.ntmps13, List.size_toArray, List.length_cons, List.length_nil, Nat.reduceAdd, Nat.reduceSub, Array.replicate_succ, Array.replicate_zero, List.push_toArray, List.append_toArray, List.nil_append, List.cons_append]
  gi_wp2
  go_ret
  exact ⟨rfl, rfl⟩
section
variable {ops : Array Oper} {rest : List Oper} {op : Oper} {a : Act} {w : World} {Q : Exit → Act → World → Prop} {m : Nat}
theorem wpi_ld_of (hgd : op.guard = none) (ty : TypeId) (x : Operand) (ho : op.op = .load ty x) {b o : Nat} {v : Value} (hx : a.eval x = .pointer (some ⟨b, o, none⟩)) (hr : (loadVar ty ⟨b, o, none⟩).run Tryd.prog w = .ok v w)
    (h : wpListIn Fence.wide m Tryd.prog ops Q rest (a.put op.dst v) w) : wpListIn Fence.wide m Tryd.prog ops Q (op :: rest) a w :=
  wpListIn_plain hgd fun _ hK => by
    unfold Oper.wpIn
    refine ⟨fun f _ => trivial, ?_⟩
    rw [show Fence.wide.round = none from rfl, Oper.semAt_none]
    unfold execOp
    simp only [ho, hx, Instr.loadAt, Instr.sureAddr, Sem.run_bind, Sem.run_pure, Result.andThen_ok, hr]
    exact hK _ _ h
end
set_option maxRecDepth 100000 in
set_option maxHeartbeats 2000000 in
theorem bwd_tells (E : Nat → Ez) (q : Option Addr) (n cap : Nat) (ok : Nat → TypeId → Prop) (Bs : Nat) (w : World) (hn : n ≤ 1000000000)
    (hS : Hb w Bs 40 1 (fun _ => .slice q n cap)) (k1 : ∀ b, ¬ ok b 40) (hE : ∀ W, Kc ok w W → EnL W q n E) :
    Tells true Tryd.prog 29 #[.pointer (some ⟨Bs, 0, none⟩)] (bwdL E n) ok w := fun l J Jx W hW hJ hJx hY h0 m => by
  have hS1 := hS.kc hW (k1 _)
  have HE := hid hE
  have HY := hid hY
  have HJ := hid hJ
  clear hE hY hS
  refine callsIn_of_wp Tryd.func29 rfl trivial ?_ rfl
  simp only [Tryd.ntmps29, List.size_toArray, List.length_cons, List.length_nil, Nat.reduceAdd, Nat.reduceSub, Array.replicate_succ, Array.replicate_zero, List.push_toArray, List.append_toArray, List.nil_append, List.cons_append]
  have c1 := hS1.cell (i := 0) (by omega)
  have e1 : IntKind.i64.wrap ((n : Int) - 1) = (n : Int) - 1 := IntWalk.i64_in _ (by omega)
  gi_wp2
  gi_loopw [3] (fun i wr => ∃ j : Nat, j ≤ n ∧ i = .int .i64 ((j : Int) - 1) ∧ Hb wr Bs 40 1 (fun _ => .slice q n cap) ∧ Kc ok w wr ∧ J (n - j) wr) (fun i _ => (intOf i + 1).toNat)
  case atStart => exact ⟨n, Nat.le_refl _, by go_num, hS1, hW, by rw [Nat.sub_self]; exact h0⟩
  case round =>
    obtain ⟨j, hj1, rfl, hS2, hW2, hJ2⟩ := hrel
    by_cases h0 : j = 0
    · subst h0
      gi_wp2
      go_end0
      exact ⟨⟨_, rfl⟩, .inl (by rw [bwdL_len]; exact hJ2)⟩
    · obtain ⟨b, o, rfl, hA⟩ := HE.out wr hW2 (by omega)
      obtain ⟨i, rfl⟩ : ∃ i, j = i + 1 := ⟨j - 1, by omega⟩
      have hx := bwdL_get E (show i < n by omega)
      have hi : n - (i + 1) = n - 1 - i := by omega
      rw [hi] at hJ2
      obtain ⟨fn, tmps, assign, body, hy, hR⟩ := HY.out _ _ wr (m - 1) hx hJ2
      have hA := hA i (by omega)
      have hl := load_ez hA
      have c2 := hS2.cell (i := 0) (by omega)
      have e2 : ((i + 1 : Nat) : Int) - 1 = (i : Int) := by omega
      have e3 : IntKind.i64.wrap ((i : Int) - 1) = (i : Int) - 1 := IntWalk.i64_in _ (by omega)
      have hin : i < n := by omega
      have HW2 := hid hW2
      have HS2 := hid hS2
      rw [e2]
      clear hx hi hJ2 hW2 hS2 hA hW e1 e2
      generalize ezR (E i) = ev at hl hy
      gi_wp2_with (first
        | (refine wpi_ld_of rfl _ _ rfl rfl hl ?_))
      refine ⟨(fun h => by cases h), ?_⟩
      refine hR.mono ?_
      rintro e W5 (⟨rfl, hJ5, hk5⟩ | ⟨_, rfl, hx5⟩)
      · have HS5 := hid (HS2.out.kc hk5 (k1 _))
        have HW5 := hid (HW2.out.trans hk5)
        have HJ5 := hid hJ5
        clear hJ5 hk5 hR hy hl
        gi_wp2
        go_roundw
        case rel => exact ⟨i, by omega, by go_num, HS5.out, HW5.out, by rw [show n - i = n - 1 - i + 1 by omega]; exact HJ5.out⟩
        case measure => simp [intOf]
      · clear hR hy hl
        gi_wp2
        refine bodyPost_ret (results_none rfl _ _ _) rfl ?_
        exact ⟨⟨_, rfl⟩, .inr ⟨n - 1 - i, by rw [bwdL_len]; omega, hx5⟩⟩
end Go.Proofs.YtiajbijbhhpllaaDoor
namespace Go.Proofs.YtiajbijbhhpllaaDoor
open Go Go.RowKit
theorem round_ok2 {st : Bool} {P : Program} {B l k : Nat} {ok : Nat → TypeId → Prop} {I : Nat → World → Prop} {Ix : Code → Nat → World → Prop} (hI : OwnFrom B I) (hIx : ∀ c, OwnFrom B (Ix c)) {G : Act → World → Prop} (hG : OwnFrom B G) (X : World → Prop) (hX : ∀ W W', KeepsFrom B W W' → X W → X W') (hXp : ∀ W o, X W → X (W.putObj l o)) (hB : B ≤ l)
    (rc : LoopState → Option Code → Loop) (fn : FuncId) (tm : Array Value) (ps : Array Tmp) (assign body : Code) (dd : Nat) (hrc : rc = fun st pe => { state := st, pending := pe, fn := fn, tmps := tm, params := ps, assign := assign, body := body, defers := dd }) (x : Array Value) (hps : x.size = ps.size)
    (hassign : ∀ m W (K : Act → World → Prop), I k W → (∃ r, W.heap[l]? = some (.loop r)) → (∀ a1 W1, G a1 W1 → Kc ok W W1 → K a1 W1) → assign.wpIn (Fence.wide.inRound l) m P (Exit.then K (fun _ _ _ => False)) { tmps := (ps.zip x).foldl (fun t (p, v) => t.setIfInBounds p v) tm, defers := [] } W)
    (hbody : ∀ a1 m W, (∃ r, W.heap[l]? = some (.loop r)) → G a1 W → body.wpIn (Fence.wide.inRound l) m P (bPost st B ok I Ix k W) a1 W)
    (W : World) (hi : I k W) (hl : W.heap[l]? = some (.loop (rc .ready none))) (hx : X W) (m : Nat) :
    YieldAt Fence.wide m P l x W fun e W' => (e = .returned (.bool true) ∧ (I (k + 1) W' ∧ W'.heap[l]? = some (.loop (rc .ready none)) ∧ X W') ∧ Kc ok W W') ∨ (st = true ∧ e = .returned (.bool false) ∧ ∃ c, Ix c k W' ∧ W'.heap[l]? = some (.loop (rc .done (some c))) ∧ X W') := by
  have hy := run_yield (P := P) (args := x) hl (by rw [hrc]; exact hps)
  have e0 : (rc .ready none).fn = fn ∧ (rc .ready none).tmps = tm ∧ (rc .ready none).params = ps ∧ (rc .ready none).assign = assign ∧ (rc .ready none).body = body ∧ (rc .ready none).state = .ready := by rw [hrc]; exact ⟨rfl, rfl, rfl, rfl, rfl, rfl⟩
  obtain ⟨f1, f2, f3, f4, f5, f6⟩ := e0
  rw [f1, f2, f3, f4, f5] at hy
  refine ⟨fn, _, assign, body, hy, roundIn_of_wpIn trivial (hassign _ W _ hi ⟨_, hl⟩ fun a1 W1 hg1 hkc => ?_)⟩
  have hx := hX _ _ (hkc.keeps B) hx
  have hl0 := hl
  have hl := hkc.objs _ _ hl rfl
  refine ⟨_, run_beginRound hl f6, ?_⟩
  have hlt : l < W1.heap.size := (Array.getElem?_eq_some_iff.1 hl).1
  have hl2 : (W1.putObj l (.loop { rc .ready none with state := .busy })).heap[l]? = some (.loop { rc .ready none with state := .busy }) := World.putObj_heap_same hlt
  refine wpIn_mono (hbody _ _ _ ⟨_, hl2⟩ (hG.putObj _ hg1 hB hl rfl)) ?_
  have fin : ∀ (jump : Option Code) (W3 : World), KeepsFrom B (W1.putObj l (.loop { rc .ready none with state := .busy })) W3 →
      (Instr.endRound l jump).run P W3 = .ok (.bool jump.isNone) (W3.putObj l (.loop (rc (if jump.isNone then .ready else .done) jump))) ∧ W3.heap[l]? = some (.loop { rc .ready none with state := .busy }) ∧
      (W3.putObj l (.loop (rc (if jump.isNone then .ready else .done) jump))).heap[l]? = some (.loop (rc (if jump.isNone then .ready else .done) jump)) ∧ X (W3.putObj l (.loop (rc (if jump.isNone then .ready else .done) jump))) := fun jump W3 hk => by
    have hl3 := hk.same _ _ hB hl2 rfl
    have he := run_endRound (P := P) jump hl3
    refine ⟨?_, hl3, World.putObj_heap_same (Array.getElem?_eq_some_iff.1 hl3).1, hXp _ _ (hX _ _ hk (hXp _ _ hx))⟩
    rw [he, hrc]
  rintro e a3 W3 hp
  cases e with
  | normal =>
    obtain ⟨hc, hi3⟩ := hp
    obtain ⟨hr, hl3, hl4, hx4⟩ := fin none W3 (hc.keeps _)
    refine ⟨_, _, hr, .inl ⟨rfl, ⟨hI.putObj _ hi3 hB hl3 rfl, hl4, hx4⟩, hkc.trans ⟨by have := hc.size; simpa using this, fun i cs t fz hi h1 => ?_, fun i o hi ho => ?_⟩⟩⟩
    · have hne : i ≠ l := by rintro rfl; rw [hl] at hi; cases hi
      exact (World.putObj_heap_other hne).trans (hc.cells i cs t fz ((World.putObj_heap_other hne).trans hi) h1)
    · by_cases hne : i = l
      · subst hne
        rw [hl] at hi
        rw [hl4, ← hi]; rfl
      · exact (World.putObj_heap_other hne).trans (hc.objs i o ((World.putObj_heap_other hne).trans hi) ho)
  | ret =>
    obtain ⟨hst, hk, hi3⟩ := hp
    obtain ⟨hr, hl3, hl4, hx4⟩ := fin (some .ret) W3 hk
    exact ⟨_, _, hr, .inr ⟨hst, rfl, .ret, (hIx _).putObj _ hi3 hB hl3 rfl, hl4, hx4⟩⟩
  | exit id =>
    obtain ⟨hst, hk, hi3⟩ := hp
    obtain ⟨hr, hl3, hl4, hx4⟩ := fin (some (.exit id)) W3 hk
    exact ⟨_, _, hr, .inr ⟨hst, rfl, .exit id, (hIx _).putObj _ hi3 hB hl3 rfl, hl4, hx4⟩⟩
  | goto t => exact hp.elim
  | panic ch => exact hp.elim
  | outgrown => exact hp.elim
section
variable {P : Program} {n : Nat} {g : Operand} {ps : Array Tmp} {assign body : Code} {Q : Exit → Act → World → Prop} {a : Act} {w : World}
theorem range_outer2 {st : Bool} {gf : Nat} {lb : Array Value} {xs : List (Array Value)} {ok : Nat → TypeId → Prop} (ht : Tells st P gf lb xs ok w) (hg : a.eval g = .func (.func gf) #[] lb) (eg : ∀ args w, (callFunc gf args).run P w = .ok (.enter gf args) w) (hps : ∀ (k : Nat) (x : Array Value), xs[k]? = some x → x.size = ps.size)
    (I : Nat → World → Prop) (Ix : Code → Nat → World → Prop) (hI : OwnFrom w.heap.size I) (hIx : ∀ c, OwnFrom w.heap.size (Ix c)) (h0 : I 0 w) (G : Nat → Act → World → Prop) (hG : ∀ k, OwnFrom w.heap.size (G k))
    (hassign : ∀ l k x m W (K : Act → World → Prop), xs[k]? = some x → w.heap.size ≤ l → I k W → (∃ r, W.heap[l]? = some (.loop r)) → (∀ a1 W1, G k a1 W1 → Kc ok W W1 → K a1 W1) → assign.wpIn (Fence.wide.inRound l) m P (Exit.then K (fun _ _ _ => False)) { tmps := (ps.zip x).foldl (fun t (p, v) => t.setIfInBounds p v) a.tmps, defers := [] } W)
    (hbody : ∀ l k x a1 m W, xs[k]? = some x → w.heap.size ≤ l → (∃ r, W.heap[l]? = some (.loop r)) → G k a1 W → body.wpIn (Fence.wide.inRound l) m P (bPost st w.heap.size ok I Ix k W) a1 W)
    (hdone : ∀ (D : Nat) (W : World), w.heap.size ≤ D → I xs.length W → W.heap[D]? = some (.deferred (some [])) → Q .normal { a with defers := { target := .collected D, args := #[] } :: a.defers } W)
    (hstop : ∀ (D : Nat) (c : Code) (k : Nat) (W : World), w.heap.size ≤ D → k < xs.length → Ix c k W → W.heap[D]? = some (.deferred (some [])) → c.wpIn Fence.wide n P Q { a with defers := { target := .collected D, args := #[] } :: a.defers } W) :
    (Code.rangeFunc g ps assign body).wpIn Fence.wide n P Q a w := by
  refine wpIn_rangeFunc fun fn hfn => ?_
  obtain ⟨rc, hrc⟩ : ∃ rc : LoopState → Option Code → Loop, rc = fun st pe => { state := st, pending := pe, fn := fn, tmps := a.tmps, params := ps, assign := assign, body := body, defers := w.heap.size } := ⟨_, rfl⟩
  obtain ⟨W1, hW1⟩ : ∃ W1, (w.alloc (.deferred (some []))).alloc (.loop (rc .ready none)) = W1 := ⟨_, rfl⟩
  have hl1 : W1.heap[w.heap.size + 1]? = some (.loop (rc .ready none)) := by
    rw [← hW1]; have := World.alloc_heap_new (w.alloc (.deferred (some []))) (.loop (rc .ready none)); rwa [World.size_alloc] at this
  have hd1 : W1.heap[w.heap.size]? = some (.deferred (some [])) := by
    rw [← hW1]; exact (Below.heap_alloc _ _ _ (by simp)).trans (World.alloc_heap_new w _)
  have hi1 : I 0 W1 := by rw [← hW1]; exact hI.alloc _ (hI.alloc _ h0)
  have hk1 : Kc ok w W1 := by rw [← hW1]; exact ((Kc.refl ok w).alloc _).alloc _
  have hsz : w.heap.size + 2 = W1.heap.size := by rw [← hW1]; simp
  refine ⟨w.heap.size + 1, [{ target := .collected w.heap.size, args := #[] }], W1, { target := .fn (.func gf) lb, args := #[.func (.yield (w.heap.size + 1)) #[] #[]] }, W1, gf, #[.func (.yield (w.heap.size + 1)) #[] #[]] ++ lb, W1, ?_, ?_, ?_, ?_, (fun h => by cases h), ?_⟩
  · rw [← hW1, hrc]; exact run_enterLoop_outer _ _ _ _ _
  · simp only [resolve, hg]
    simp [go_sem]
  · intro f' hf'; trivial
  · simp [invoke, go_sem, eg]
  have keep : ∀ {k : Nat} {o : Obj} {A A' : World} {row : Option Nat}, k < w.heap.size + 2 → A.grownBy A' row → (∀ r, row = some r → W1.heap.size ≤ r ∧ ∃ o : Obj, A.heap[r]? = some o ∧ o.isCells = false) → A.heap[k]? = some o → A'.heap[k]? = some o := fun {k o A A' row} hk hg' hr h =>
    (hg'.block k (Array.getElem?_eq_some_iff.1 h).1 (fun e => by have := (hr k e.symm).1; omega)).trans h
  refine (ht (w.heap.size + 1) (fun k W => I k W ∧ W.heap[w.heap.size + 1]? = some (.loop (rc .ready none)) ∧ W.heap[w.heap.size]? = some (.deferred (some [])))
    (fun k W => ∃ c, Ix c k W ∧ W.heap[w.heap.size + 1]? = some (.loop (rc .done (some c))) ∧ W.heap[w.heap.size]? = some (.deferred (some []))) W1 hk1
    (fun s A A' row hs hg' hr => ⟨ownFrom_up hI (by omega) s A A' row hs.1 hg' hr, keep (by omega) hg' hr hs.2.1, keep (by omega) hg' hr hs.2.2⟩)
    (fun s A A' row hs hg' hr => by
      obtain ⟨c, hc, h1, h2⟩ := hs
      exact ⟨c, ownFrom_up (hIx c) (by omega) s A A' row hc hg' hr, keep (by omega) hg' hr h1, keep (by omega) hg' hr h2⟩)
    (fun k x W m hk hj => round_ok2 hI hIx (hG k) (fun W => W.heap[w.heap.size]? = some (.deferred (some []))) (fun A A' h1 h2 => h1.same _ _ (Nat.le_refl _) h2 rfl) (fun A o h => (World.putObj_heap_other (by omega)).trans h) (by omega) rc fn a.tmps ps assign body w.heap.size hrc x (hps k x hk)
      (fun m W K hi hr hK => hassign _ k x m W K hk (by omega) hi hr hK) (fun a1 m W hr hi => hbody _ k x a1 m W hk (by omega) hr hi) W hj.1 hj.2.1 hj.2.2 m) ⟨hi1, hl1, hd1⟩ (n - 1)).mono ?_
  rintro e W2 ⟨⟨v, rfl⟩, ⟨hi, hl, hd⟩ | ⟨k, hk, c, hi, hl, hd⟩⟩
  · have he := run_endLoop (P := P) hl (by rw [hrc]; simp)
    rw [show (rc .ready none).pending = none by rw [hrc]] at he
    exact ⟨none, _, he, hdone _ _ (Nat.le_refl _) (hI.putObj _ hi (by omega) hl rfl) ((World.putObj_heap_other (by omega)).trans hd)⟩
  · have he := run_endLoop (P := P) hl (by rw [hrc]; simp)
    rw [show (rc .done (some c)).pending = some c by rw [hrc]] at he
    exact ⟨some c, _, he, hstop _ c k _ (Nat.le_refl _) hk ((hIx c).putObj _ hi (by omega) hl rfl) ((World.putObj_heap_other (by omega)).trans hd)⟩
end
section
variable {P : Program} {ops : Array Oper} {rest : List Oper} {op : Oper} {a : Act} {w : World} {Q : Exit → Act → World → Prop} {l m : Nat}
theorem wpr_st (hgd : op.guard = none) (ty : TypeId) (x y : Operand) (ho : op.op = .store ty x y) {b o : Nat} {v : Value} {w' : World} (hx : a.eval x = .pointer (some ⟨b, o, none⟩)) (hy : a.eval y = v) (hr : (storeVar ty ⟨b, o, none⟩ v).run P w = .ok () w')
    (h : wpListIn (Fence.wide.inRound l) m P ops Q rest (a.put op.dst undef) w') : wpListIn (Fence.wide.inRound l) m P ops Q (op :: rest) a w :=
  wpListIn_plain hgd fun _ hK => by
    unfold Oper.wpIn
    refine ⟨fun f _ => trivial, ?_⟩
    rw [Oper.semAt_eq _ _ _ (fun c => by rw [ho]; simp)]
    unfold execOp
    simp only [ho, hx, hy, Instr.storeAt, Instr.sureAddr, Sem.run_bind, Sem.run_pure, Result.andThen_ok, hr]
    exact hK _ _ h
theorem wpr_ld (hgd : op.guard = none) (ty : TypeId) (x : Operand) (ho : op.op = .load ty x) {b o : Nat} {v : Value} (hx : a.eval x = .pointer (some ⟨b, o, none⟩)) (hr : (loadVar ty ⟨b, o, none⟩).run P w = .ok v w)
    (h : wpListIn (Fence.wide.inRound l) m P ops Q rest (a.put op.dst v) w) : wpListIn (Fence.wide.inRound l) m P ops Q (op :: rest) a w :=
  wpListIn_plain hgd fun _ hK => by
    unfold Oper.wpIn
    refine ⟨fun f _ => trivial, ?_⟩
    rw [Oper.semAt_eq _ _ _ (fun c => by rw [ho]; simp)]
    unfold execOp
    simp only [ho, hx, Instr.loadAt, Instr.sureAddr, Sem.run_bind, Sem.run_pure, Result.andThen_ok, hr]
    exact hK _ _ h
end
end Go.Proofs.YtiajbijbhhpllaaDoor
namespace Go.Proofs.YtiajbijbhhpllaaDoor
open Go Go.RowKit Sim
theorem ldInt {w : World} {b : Nat} {x : Int} (h : w.cell? ⟨b, 0, none⟩ = some (.int .i64 x)) : (loadVar 3 ⟨b, 0, none⟩).run Tryd.prog w = .ok (.int .i64 x) w :=
  Sim.run_loadB (cs := [.int .i64 x]) (off := 0) (by kernel_rfl) w (fun i u hu => by
    match i, hu with
    | 0, hu => simp at hu; subst hu; exact h
    | i + 1, hu => simp at hu)
theorem ldBool {w : World} {b : Nat} {x : Bool} (h : w.cell? ⟨b, 0, none⟩ = some (.bool x)) : (loadVar 4 ⟨b, 0, none⟩).run Tryd.prog w = .ok (.bool x) w :=
  Sim.run_loadB (cs := [.bool x]) (off := 0) (by kernel_rfl) w (fun i u hu => by
    match i, hu with
    | 0, hu => simp at hu; subst hu; exact h
    | i + 1, hu => simp at hu)
theorem resIB {fn : Func} {i j : Nat} (h : fn.results = #[.cell i 3, .cell j 4]) {tmps : Array Value} {b c : Nat} (h2 : tmps.getD i undef = .pointer (some ⟨b, 0, none⟩)) (h3 : tmps.getD j undef = .pointer (some ⟨c, 0, none⟩)) {w : World} {x : Int} {y : Bool} (hb : w.cell? ⟨b, 0, none⟩ = some (.int .i64 x)) (hc : w.cell? ⟨c, 0, none⟩ = some (.bool y)) : (results fn tmps).run Tryd.prog w = .ok (.tuple #[.int .i64 x, .bool y]) w := by
  have l1 := ldInt hb
  have l2 := ldBool hc
  unfold results
  rw [h]
  rw [Array.getD_eq_getD_getElem?] at h2 h3
  simp [h2, h3, l1, l2, Sem.run_bind, asAddr]
theorem upd1 (v u : Value) : ∀ i, i < 1 → updF (fun _ => v) 0 u i = (fun _ => u) i := fun i hi => by
  have : i = 0 := by omega
  subst this; rfl
theorem oneAt (v : Value) : ∀ i, i < #[v].size → #[v][i]? = some ((fun _ => v) i : Value) := fun i hi => by
  have hi : i < 1 := hi
  have : i = 0 := by omega
  subst this; rfl
set_option maxRecDepth 100000 in
set_option maxHeartbeats 2000000 in
theorem reg_out {w : World} {bw : Nat} (i r : Int) (hr : r ≤ 0 ∨ 32 ≤ r) : Calls Tryd.prog 6 #[.pointer (some ⟨bw, 0, none⟩), .int .i64 i, .int .i64 r] w fun e w' => e = .returned (.tuple #[.int .i64 0, .bool true]) ∧ Below w.heap.size w w' := by
  refine (callsIn_wide (n := 9)).1 ?_
  refine callsIn_of_wp_marks Tryd.func6 rfl trivial ?_ rfl
  simp only [Tryd.ntmps6, List.size_toArray, List.length_cons, List.length_nil, Nat.reduceAdd, Nat.reduceSub, Array.replicate_succ, Array.replicate_zero, List.push_toArray, List.append_toArray, List.nil_append, List.cons_append]
  have hB : ∀ u : Value, Below w.heap.size w (((w.alloc (.cells #[.int .i64 r] 3)).alloc (.cells #[.int .i64 0] 3)).alloc (.cells #[u] 4)) := fun u => (((Below.refl _ w).alloc (Nat.le_refl _) _).alloc (by simp) _).alloc (by simp; omega) _
  have x2 : ∀ u : Value, Hb (((w.alloc (.cells #[.int .i64 r] 3)).alloc (.cells #[.int .i64 0] 3)).alloc (.cells #[u] 4)) (w.heap.size + 1) 3 1 (fun _ => .int .i64 0) := fun u => by
    have := (Hb.new (w.alloc (.cells #[.int .i64 r] 3)) #[.int .i64 0] 3 (oneAt _)).alloc (.cells #[u] 4)
    rwa [World.size_alloc] at this
  have x3 : ∀ u : Value, Hb (((w.alloc (.cells #[.int .i64 r] 3)).alloc (.cells #[.int .i64 0] 3)).alloc (.cells #[u] 4)) (w.heap.size + 1 + 1) 4 1 (fun _ => u) := fun u => by
    have := Hb.new ((w.alloc (.cells #[.int .i64 r] 3)).alloc (.cells #[.int .i64 0] 3)) #[u] 4 (oneAt _)
    rwa [World.size_alloc, World.size_alloc] at this
  by_cases h1 : r ≤ 0
  · gi_wp2
    exact leave_marks (.tuple #[.int .i64 0, .bool true]) (fun W => (Hb W (w.heap.size + 1) 3 1 (fun _ => .int .i64 0) ∧ Hb W (w.heap.size + 1 + 1) 4 1 (fun _ => .bool true)) ∧ Below w.heap.size w W) (fun W h => resIB rfl rfl rfl (h.1.1.cell (i := 0) (by omega)) (h.1.2.cell (i := 0) (by omega))) (fun W h => ⟨rfl, h.2⟩) [] _ (by simp) (fun D' h => by simp at h) (fun D' W h => by simp at h) ⟨⟨x2 _, x3 _⟩, hB _⟩
  · have h2 : 32 ≤ r := by omega
    gi_wp2
    exact leave_marks (.tuple #[.int .i64 0, .bool true]) (fun W => (Hb W (w.heap.size + 1) 3 1 (fun _ => .int .i64 0) ∧ Hb W (w.heap.size + 1 + 1) 4 1 (fun _ => .bool true)) ∧ Below w.heap.size w W) (fun W h => resIB rfl rfl rfl (h.1.1.cell (i := 0) (by omega)) (h.1.2.cell (i := 0) (by omega))) (fun W h => ⟨rfl, h.2⟩) [] _ (by simp) (fun D' h => by simp at h) (fun D' W h => by simp at h) ⟨⟨x2 _, x3 _⟩, hB _⟩
abbrev regT (bw m r hs n cap eb : Nat) (i a x : Int) (q : Option Addr) (e : Ez) : Array Value := #[.pointer (some ⟨bw, 0, none⟩), .int .i64 (m : Int), .int .i64 (r : Int), undef, undef, .pointer (some ⟨hs, 0, none⟩), .pointer (some ⟨hs + 1, 0, none⟩), .pointer (some ⟨hs + 1 + 1, 0, none⟩), undef, .pointer (some ⟨eb, 0, none⟩), undef, undef, .pointer (some ⟨bw, 0, none⟩), .bool false, .int .i64 (r : Int), .bool false, .bool false, .int .i64 (r : Int), .bool false, .bool false, .int .i64 i, .int .i64 a, .pointer (some ⟨bw, 0, none⟩), .pointer (some ⟨bw, 0, none⟩), .pointer (some ⟨bw, 32, none⟩), .slice q n cap, .int .i64 (n : Int), .int .i64 (m : Int), .pointer (some ⟨bw, 0, none⟩), .pointer (some ⟨bw, 0, none⟩), .pointer (some ⟨bw, 32, none⟩), .slice q n cap, .int .i64 (m : Int), .int .i64 (m : Int), .slice q m m, .func (.func 29) #[] #[.pointer (some ⟨hs + 3, 0, none⟩)], .int .i64 x, .agg (ezR e), undef, undef, undef, undef, undef, undef, undef, undef, undef, undef, undef, undef, undef, undef, undef, undef, undef, undef, undef, undef]
theorem regZ_step (rg : Nat → Int) (E : Nat → Ez) (r : Int) {k : Nat} (hk : 0 < k) : regZ rg E r k = if wrZ (E (k - 1)) r then (if (E (k - 1)).ry then ((E (k - 1)).val, true) else (0, false)) else regZ rg E r (k - 1) := by
  cases k with
  | zero => omega
  | succ k => rfl
structure RgI (w : World) (rg : Nat → Int) (E : Nat → Ez) (r m : Nat) (k : Nat) (W : World) : Prop where
  le : k ≤ m
  z : regZ rg E (r : Int) m = regZ rg E (r : Int) (m - k)
  b1 : Hb W w.heap.size 3 1 (fun _ => .int .i64 (r : Int))
  b2 : Hb W (w.heap.size + 1) 3 1 (fun _ => .int .i64 0)
  b3 : Hb W (w.heap.size + 1 + 1) 4 1 (fun _ => .bool false)
  bl : Below w.heap.size w W
theorem wr_val (e : Ez) {r : Int} (hr : 0 < r) : (bif mayB e.i && e.i.rd != 0 then e.i.rd else 0) = r ↔ wrZ e r = true := by
  unfold wrZ
  cases mayB e.i
  · constructor
    · intro h
      have h : (0 : Int) = r := h
      omega
    · intro h
      cases h
  · by_cases h : e.i.rd = 0
    · constructor
      · intro h2
        have e0 : (e.i.rd != 0) = false := by simpa using h
        rw [e0] at h2
        have h2 : (0 : Int) = r := h2
        omega
      · intro h2
        have h2 : e.i.rd = r := by simpa using h2
        omega
    · have e0 : (e.i.rd != 0) = true := by simpa using h
      rw [e0]
      constructor
      · intro h2
        have h2 : e.i.rd = r := h2
        simp [h2]
      · intro h2
        have h2 : e.i.rd = r := by simpa using h2
        exact h2
structure RgX (w : World) (v : Int × Bool) (W : World) : Prop where
  b2 : Hb W (w.heap.size + 1) 3 1 (fun _ => .int .i64 v.1)
  b3 : Hb W (w.heap.size + 1 + 1) 4 1 (fun _ => .bool v.2)
  bl : Below w.heap.size w W
theorem RgI.own {w : World} {rg : Nat → Int} {E : Nat → Ez} {r m B : Nat} (hB : w.heap.size ≤ B) : OwnFrom B (RgI w rg E r m) := fun s W W' row hs hg hr =>
  ⟨hs.le, hs.z, ownFrom_hb B _ _ _ _ () W W' row hs.b1 hg hr, ownFrom_hb B _ _ _ _ () W W' row hs.b2 hg hr, ownFrom_hb B _ _ _ _ () W W' row hs.b3 hg hr, ownFrom_below (Nat.le_refl _) hB () W W' row hs.bl hg hr⟩
theorem RgX.own {w : World} {v : Int × Bool} {B : Nat} {β : Type} (hB : w.heap.size ≤ B) : OwnFrom B (fun (_ : β) W => RgX w v W) := fun s W W' row hs hg hr =>
  ⟨ownFrom_hb B _ _ _ _ () W W' row hs.b2 hg hr, ownFrom_hb B _ _ _ _ () W W' row hs.b3 hg hr, ownFrom_below (Nat.le_refl _) hB () W W' row hs.bl hg hr⟩
set_option maxRecDepth 100000 in
set_option maxHeartbeats 2000000 in
theorem reg_in {w : World} {bw : Nat} {rg : Nat → Int} {q : Option Addr} {n cap : Nat} {E : Nat → Ez} (hW : Hb w bw 42 33 (winF rg (.slice q n cap))) (hE : EnL w q n E) (hn : n ≤ 1000000000) (hc : n ≤ cap) (i : Int) (r : Nat) (hr : 0 < r) (hr2 : r < 32) :
    Calls Tryd.prog 6 #[.pointer (some ⟨bw, 0, none⟩), .int .i64 i, .int .i64 (r : Int)] w fun e w' => e = .returned (.tuple #[.int .i64 (regY rg E n i r).1, .bool (regY rg E n i r).2]) ∧ Below w.heap.size w w' := by
  have HM := hid (fun q n cap w => callsIn_wide.1 (bwd_make q n cap w Fence.wide 0 trivial rfl))
  refine (callsIn_wide (n := 9)).1 ?_
  refine callsIn_of_wp_marks Tryd.func6 rfl trivial ?_ rfl
  simp only [Tryd.ntmps6, List.size_toArray, List.length_cons, List.length_nil, Nat.reduceAdd, Nat.reduceSub, Array.replicate_succ, Array.replicate_zero, List.push_toArray, List.append_toArray, List.nil_append, List.cons_append]
  have h1 : ¬ (r : Int) ≤ 0 := by omega
  have h2 : ¬ 32 ≤ (r : Int) := by omega
  obtain ⟨a, ha⟩ : ∃ a : Int, (if (0 : Int) > i then 0 else i) = a := ⟨_, rfl⟩
  have ha0 : 0 ≤ a ∧ a.toNat = i.toNat := by rw [← ha]; split <;> omega
  obtain ⟨m, hm⟩ : ∃ m : Nat, (if (n : Int) < a then (n : Int) else a) = (m : Int) := ⟨min i.toNat n, by split <;> omega⟩
  have hmn : m = min i.toNat n := by
    split at hm <;> omega
  have cw : w.cell? ⟨bw, 32, none⟩ = some (.slice q n cap) := hW.cell (i := 32) (by omega)
  have hlt := hW.lt
  obtain ⟨w1, hw1⟩ : ∃ w1, (((w.alloc (.cells #[.int .i64 (r : Int)] 3)).alloc (.cells #[.int .i64 0] 3)).alloc (.cells #[.bool false] 4)) = w1 := ⟨_, rfl⟩
  have hB1 : Below w.heap.size w w1 := by rw [← hw1]; exact (((Below.refl _ w).alloc (Nat.le_refl _) _).alloc (by simp) _).alloc (by simp; omega) _
  have s1 : w1.heap.size = w.heap.size + 3 := by rw [← hw1]; simp
  have x1 : Hb w1 w.heap.size 3 1 (fun _ => .int .i64 (r : Int)) := by rw [← hw1]; exact ((Hb.new w #[.int .i64 (r : Int)] 3 (oneAt _)).alloc _).alloc _
  have x2 : Hb w1 (w.heap.size + 1) 3 1 (fun _ => .int .i64 0) := by
    rw [← hw1]
    have := (Hb.new (w.alloc (.cells #[.int .i64 (r : Int)] 3)) #[.int .i64 0] 3 (oneAt _)).alloc (.cells #[.bool false] 4)
    rwa [World.size_alloc] at this
  have x3 : Hb w1 (w.heap.size + 1 + 1) 4 1 (fun _ => .bool false) := by
    rw [← hw1]
    have := Hb.new ((w.alloc (.cells #[.int .i64 (r : Int)] 3)).alloc (.cells #[.int .i64 0] 3)) #[.bool false] 4 (oneAt _)
    rwa [World.size_alloc, World.size_alloc] at this
  have c1 : w1.cell? ⟨w.heap.size, 0, none⟩ = some (.int .i64 (r : Int)) := x1.cell (i := 0) (by omega)
  have cw1 : w1.cell? ⟨bw, 32, none⟩ = some (.slice q n cap) := (hW.below hB1 hlt).cell (i := 32) (by omega)
  have hmc : m ≤ cap := by omega
  have hm1 : m ≤ n := by omega
  have HrY := hid (show regY rg E n i (r : Int) = regZ rg E (r : Int) m by unfold regY; rw [if_neg (by omega), hmn])
  have HWw := hid hW
  have HEw := hid hE
  have Hb1 := hid hB1
  clear hW hE hB1 hmn ha0
  gi_wp2_with (refine ⟨trivial, ?_⟩; refine (callsIn_wide.2 (HM.out _ _ _ _)).mono ?_; rintro e' w3 ⟨rfl, rfl⟩)
  have y1 := x1.alloc (.cells #[.slice q m m] 40)
  have y2 := x2.alloc (.cells #[.slice q m m] 40)
  have y3 := x3.alloc (.cells #[.slice q m m] 40)
  have y4 : Hb (w1.alloc (.cells #[.slice q m m] 40)) (w.heap.size + 3) 40 1 (fun _ => .slice q m m) := by
    have := Hb.new w1 #[.slice q m m] 40 (oneAt _)
    rwa [s1] at this
  have hB2 : Below w.heap.size w (w1.alloc (.cells #[.slice q m m] 40)) := Hb1.out.alloc (by omega) _
  have s2 : (w1.alloc (.cells #[.slice q m m] 40)).heap.size = w.heap.size + 4 := by simp; omega
  clear x1 x2 x3 c1 cw1 hw1
  generalize w1.alloc (.cells #[.slice q m m] 40) = w2 at y1 y2 y3 y4 hB2 s2 ⊢
  have hE2 : ∀ W, Kc (fun _ _ => False) w2 W → EnL W q m E := fun W hk h0 => by
    obtain ⟨b, o, hq, hA⟩ := HEw.out (by omega)
    refine ⟨b, o, hq, fun j hj k hk2 => ?_⟩
    have h1 := (hA j (by omega)).below hB2 (hA j (by omega)).lt
    have h2 := h1 k hk2
    unfold World.cell? at h2 ⊢
    cases hh : w2.heap[b]? with
    | none => simp [hh] at h2
    | some ob => 
      cases ob with
      | cells cs t fz =>
        simp only [hh] at h2
        simp only [hk.cells _ _ _ _ hh (fun h => h)]
        exact h2
      | _ => simp [hh] at h2
  refine range_outer2 (bwd_tells E q m m (fun _ _ => False) (w.heap.size + 3) w2 (by omega) y4 (fun _ h => h) hE2)
    rfl (enters_of Tryd.func29 (by kernel_rfl) rfl) (fun k x hk => by obtain ⟨e, he, rfl⟩ := List.mem_map.1 (List.mem_of_getElem? hk); rfl)
    (RgI w rg E r m) (fun c k W => c = .ret ∧ RgX w (regZ rg E (r : Int) m) W) (RgI.own (by omega)) (fun c s W W' row hs hg hr => ⟨hs.1, RgX.own (by omega) s W W' row hs.2 hg hr⟩)
    ⟨Nat.zero_le _, rfl, y1, y2, y3, hB2⟩
    (fun k a1 W => ∃ (eb : Nat) (x : Int), a1 = { tmps := regT bw m r w.heap.size n cap eb i a x q (E (m - 1 - k)), defers := [] } ∧ k < m ∧ RgI w rg E r m k W ∧ Hb W eb 36 18 (ezF (E (m - 1 - k)))) ?own ?assign ?body ?done ?stop
  case own =>
    intro k s W W' row hs hg hr
    obtain ⟨eb, x, h1, h2, h3, h4⟩ := hs
    exact ⟨eb, x, h1, h2, RgI.own (by omega) k W W' row h3 hg hr, ownFrom_hb w2.heap.size _ _ _ _ () W W' row h4 hg hr⟩
  case assign =>
    intro l' k x m' W' K hk hl hI hr hK
    have hkm : k < m := by have := (List.getElem?_eq_some_iff.1 hk).1; rwa [bwdL_len] at this
    obtain ⟨v, rfl⟩ : ∃ v : Int, x = #[.int .i64 v, .agg (ezR (E (m - 1 - k)))] := by
      unfold bwdL at hk
      rw [List.getElem?_map, List.getElem?_range hkm] at hk
      exact ⟨_, by cases hk; rfl⟩
    have hKe := hK _ (W'.alloc (.cells (ezR (E (m - 1 - k))) 36)) ⟨W'.heap.size, v, rfl, hkm, (RgI.own (B := w.heap.size) (Nat.le_refl _)).alloc _ hI, Hb.newEz W' _ _⟩ ((Kc.refl _ W').alloc _)
    have hsem := @Oper.semAt_some
    generalize E (m - 1 - k) = e at hKe ⊢
    gi_wp2_with (refine wpr_st rfl _ _ _ rfl rfl rfl (run_storeVar_new _ _ _ (ezR e) ezInfo (by rfl) (by simp [Value.oneCell'])) ?_)
    exact hKe
  case body =>
    rintro l' k x a1 m' W' hk hl hr ⟨eb, v, rfl, hkm, hI, he⟩
    have hz := hI.z
    rw [regZ_step rg E (r : Int) (k := m - k) (by omega), show m - k - 1 = m - 1 - k by omega] at hz
    generalize E (m - 1 - k) = e at hz he ⊢
    obtain ⟨wv, hwv⟩ : ∃ wv : Int, (bif mayB e.i && e.i.rd != 0 then e.i.rd else 0) = wv := ⟨_, rfl⟩
    obtain ⟨wb, hwb⟩ : ∃ wb : Bool, (mayB e.i && e.i.rd != 0) = wb := ⟨_, rfl⟩
    have HWr := hid (fun W => (show Calls Tryd.prog 14 #[.agg (inA e.i)] W fun e' w' => e' = .returned (.tuple #[.int .i64 wv, .bool wb]) ∧ Below W.heap.size W w' from by rw [← hwv, ← hwb]; exact writes_ret (gl := fun _ => none) e.i W (GlobOk.none W)))
    have hwr : wv = (r : Int) ↔ wrZ e (r : Int) = true := by rw [← hwv]; exact wr_val e (by omega)
    have li := load_instr he e.i (o := 1) (fun j hj => by
      have : j = 0 ∨ j = 1 ∨ j = 2 ∨ j = 3 ∨ j = 4 ∨ j = 5 ∨ j = 6 := by omega
      rcases this with rfl | rfl | rfl | rfl | rfl | rfl | rfl <;> rfl) (by omega)
    have hsem := @Oper.semAt_some
    have HI := hid hI
    have HE := hid he
    have e1 : eb < W'.heap.size := he.lt
    have e2 : w.heap.size < W'.heap.size := hI.b1.lt
    have Hz := hid hz
    clear hI he hz hwv hwb
    by_cases hw : wrZ e (r : Int) = true
    · obtain rfl := hwr.2 hw
      rw [if_pos hw] at Hz
      clear hwr
      gi_wp2_with (first
        | (refine wpr_ld rfl _ _ rfl rfl li ?_)
        | (refine ⟨trivial, (fun h => by cases h), ?_⟩; refine (CallsIn.inRound l' (callsIn_wide.2 (HWr.out _))).mono ?_; rintro e' w4 ⟨rfl, hB4⟩; refine Hid.out ?_))
      have he4 := HE.out.below hB4 e1
      have c1 := (HI.out.b1.below hB4 e2).cell (i := 0) (by omega)
      have c13 : w4.cell? ⟨eb, 13, none⟩ = some (.bool e.ry) := he4.cell (i := 13) (by omega)
      have c12 : w4.cell? ⟨eb, 12, none⟩ = some (.int .i64 e.val) := he4.cell (i := 12) (by omega)
      have y2 := HI.out.b2.below hB4 HI.out.b2.lt
      have y3 := HI.out.b3.below hB4 HI.out.b3.lt
      have hBw := HI.out.bl.trans (hB4.mono HI.out.bl.size)
      have c2 := y2.cell (i := 0) (by omega)
      have c3 := y3.cell (i := 0) (by omega)
      have f2 := y2.free 0
      have f3 := y3.free 0
      have Hk4 := hid (Kc.keeps (Kc.of_below (ok := fun _ _ => False) hB4) w2.heap.size)
      cases hry : e.ry
      · rw [hry] at c13 Hz
        rw [if_neg (by simp)] at Hz
        clear hry
        have Y2 := hid (((y2.set (i := 0) (.int .i64 0)).other (a := ⟨w.heap.size + 1 + 1, 0, none⟩) (by simp) (.bool false)).congr (upd1 _ _))
        have Y3 := hid (((y3.other (a := ⟨w.heap.size + 1, 0, none⟩) (by simp) (.int .i64 0)).set (i := 0) (.bool false)).congr (upd1 _ _))
        have HBw := hid ((hBw.setCell (p := ⟨w.heap.size + 1, 0, none⟩) (by simp) (.int .i64 0)).setCell (p := ⟨w.heap.size + 1 + 1, 0, none⟩) (by simp; omega) (.bool false))
        clear y2 y3 he4 hBw hB4
        refine hid ?_
        gi_wp2
        exact ⟨rfl, Hk4.out.trans (((KeepsOthers.setCell _ _ _).trans (KeepsOthers.setCell _ _ _)).from _), rfl, ⟨by rw [Hz.out]; exact Y2.out, by rw [Hz.out]; exact Y3.out, HBw.out⟩⟩
      · rw [hry] at c13 Hz
        rw [if_pos rfl] at Hz
        clear hry
        have Y2 := hid (((y2.set (i := 0) (.int .i64 e.val)).other (a := ⟨w.heap.size + 1 + 1, 0, none⟩) (by simp) (.bool true)).congr (upd1 _ _))
        have Y3 := hid (((y3.other (a := ⟨w.heap.size + 1, 0, none⟩) (by simp) (.int .i64 e.val)).set (i := 0) (.bool true)).congr (upd1 _ _))
        have HBw := hid ((hBw.setCell (p := ⟨w.heap.size + 1, 0, none⟩) (by simp) (.int .i64 e.val)).setCell (p := ⟨w.heap.size + 1 + 1, 0, none⟩) (by simp; omega) (.bool true))
        clear y2 y3 he4 hBw hB4
        refine hid ?_
        gi_wp2
        exact ⟨rfl, Hk4.out.trans (((KeepsOthers.setCell _ _ _).trans (KeepsOthers.setCell _ _ _)).from _), rfl, ⟨by rw [Hz.out]; exact Y2.out, by rw [Hz.out]; exact Y3.out, HBw.out⟩⟩
    · have hne : ¬ wv = (r : Int) := fun h => hw (hwr.1 h)
      rw [if_neg (by simpa using hw)] at Hz
      clear hwr
      gi_wp2_with (first
        | (refine wpr_ld rfl _ _ rfl rfl li ?_)
        | (refine ⟨trivial, (fun h => by cases h), ?_⟩; refine (CallsIn.inRound l' (callsIn_wide.2 (HWr.out _))).mono ?_; rintro e' w4 ⟨rfl, hB4⟩; refine Hid.out ?_))
      have c1 := (HI.out.b1.below hB4 e2).cell (i := 0) (by omega)
      have Hk4 := hid (Kc.of_below (ok := fun _ _ => False) hB4)
      have HN := hid (show RgI w rg E r m (k + 1) w4 from ⟨by omega, Hz.out.trans (by rw [show m - (k + 1) = m - 1 - k by omega]), HI.out.b1.below hB4 e2, HI.out.b2.below hB4 HI.out.b2.lt, HI.out.b3.below hB4 HI.out.b3.lt, HI.out.bl.trans (hB4.mono HI.out.bl.size)⟩)
      clear hB4
      refine hid ?_
      gi_wp2
      exact ⟨Hk4.out, HN.out⟩
  case done =>
    rintro D W' hD hI hd
    rw [bwdL_len] at hI
    have hz : regZ rg E (r : Int) m = (rg r, true) := by rw [hI.z, Nat.sub_self]; simp [regZ]
    have c1 := hI.b1.cell (i := 0) (by omega)
    have c2 := hI.b2.cell (i := 0) (by omega)
    have c3 := hI.b3.cell (i := 0) (by omega)
    have f2 := hI.b2.free 0
    have f3 := hI.b3.free 0
    have cr : W'.cell? ⟨bw, r, none⟩ = some (.int .i64 (rg r)) := by
      rw [(HWw.out.below hI.bl hlt).cell (i := r) (by omega)]
      unfold winF
      rw [if_pos hr2]
    have Y2 := hid (((hI.b2.set (i := 0) (.int .i64 (rg r))).other (a := ⟨w.heap.size + 1 + 1, 0, none⟩) (by simp) (.bool true)).congr (upd1 _ _))
    have Y3 := hid (((hI.b3.other (a := ⟨w.heap.size + 1, 0, none⟩) (by simp) (.int .i64 (rg r))).set (i := 0) (.bool true)).congr (upd1 _ _))
    have HBw := hid ((hI.bl.setCell (p := ⟨w.heap.size + 1, 0, none⟩) (by simp) (.int .i64 (rg r))).setCell (p := ⟨w.heap.size + 1 + 1, 0, none⟩) (by simp; omega) (.bool true))
    have Hd := hid (setCell_obj (setCell_obj hd rfl ⟨w.heap.size + 1, 0, none⟩ (.int .i64 (rg r))) rfl ⟨w.heap.size + 1 + 1, 0, none⟩ (.bool true))
    have Hz := hid hz
    clear hI hz hd
    gi_wp2
    gi_region
    gi_wp2
    refine leave_marks (.tuple #[.int .i64 (rg r), .bool true]) (fun W => RgX w (rg r, true) W) (fun W h => resIB rfl rfl rfl (h.b2.cell (i := 0) (by omega)) (h.b3.cell (i := 0) (by omega))) (fun W h => ⟨by rw [HrY.out, Hz.out], h.bl⟩) [D] _ (by simp) (fun D' h => by rw [List.mem_singleton.1 h]; exact Hd.out) (fun D' W h hd' hh => ?_) ⟨Y2.out, Y3.out, ⟨HBw.out.os, HBw.out.tape, HBw.out.output, HBw.out.size, HBw.out.block⟩⟩
    rw [List.mem_singleton.1 h] at hd' ⊢
    exact ⟨hh.b2.putO _ hd' rfl, hh.b3.putO _ hd' rfl, hh.bl.trans (belowK_b (w := w) (Nat.le_refl _) W D _ _ (by omega) hd' rfl rfl)⟩
  case stop =>
    rintro D c k W' hD hk ⟨rfl, hX⟩ hd
    gi_wp2
    refine leave_marks (.tuple #[.int .i64 (regZ rg E (r : Int) m).1, .bool (regZ rg E (r : Int) m).2]) (fun W => RgX w (regZ rg E (r : Int) m) W) (fun W h => resIB rfl rfl rfl (h.b2.cell (i := 0) (by omega)) (h.b3.cell (i := 0) (by omega))) (fun W h => ⟨by rw [HrY.out], h.bl⟩) [D] _ (by simp) (fun D' h => by rw [List.mem_singleton.1 h]; exact hd) (fun D' W h hd' hh => ?_) hX
    rw [List.mem_singleton.1 h] at hd' ⊢
    exact ⟨hh.b2.putO _ hd' rfl, hh.b3.putO _ hd' rfl, hh.bl.trans (belowK_b (w := w) (Nat.le_refl _) W D _ _ (by omega) hd' rfl rfl)⟩
end Go.Proofs.YtiajbijbhhpllaaDoor
namespace Go.Proofs.YtiajbijbhhpllaaDoor
open Go Go.RowKit Sim
theorem reg_ret {w : World} {bw : Nat} {rg : Nat → Int} {q : Option Addr} {n cap : Nat} {E : Nat → Ez} (hW : Hb w bw 42 33 (winF rg (.slice q n cap))) (hE : EnL w q n E) (hn : n ≤ 1000000000) (hc : n ≤ cap) (i r : Int) :
    Calls Tryd.prog 6 #[.pointer (some ⟨bw, 0, none⟩), .int .i64 i, .int .i64 r] w fun e w' => e = .returned (.tuple #[.int .i64 (regY rg E n i r).1, .bool (regY rg E n i r).2]) ∧ Below w.heap.size w w' := by
  by_cases h : r ≤ 0 ∨ 32 ≤ r
  · have : regY rg E n i r = (0, true) := by unfold regY; rw [if_pos h]
    rw [this]
    exact reg_out i r h
  · obtain ⟨k, rfl⟩ : ∃ k : Nat, r = (k : Int) := ⟨r.toNat, by omega⟩
    exact reg_in hW hE hn hc i k (by omega) (by omega)
def cmpB (op : Int) : Bool := decide (22 ≤ op ∧ op ≤ 62) || (formZ op == 4 || op == 4)
def acB (op : Int) : Bool := readZ op || writeZ op
def canE (e : Ez) (a b : Bool) : Bool := e.bad == 0 && (!e.dn && (bif acB e.i.op then !e.kn && a else cmpB e.i.op && (a && b)))
structure CanH (op : Int) : Prop where
  acc : ∀ W, Calls Tryd.prog 15 #[.int .i64 op] W fun e w' => e = .returned (.bool (acB op)) ∧ Below W.heap.size W w'
  cmp : ∀ W, Calls Tryd.prog 16 #[.int .i64 op] W fun e w' => e = .returned (.bool (cmpB op)) ∧ Below W.heap.size W w'
theorem can_nil (i : Int) (w : World) : Calls Tryd.prog 9 #[.pointer none, .int .i64 i] w fun e w' => e = .returned (.bool false) ∧ w = w' := by
  go_enter Tryd.func9, Tryd.ntmps9
  go_wp2
  go_ret
  exact ⟨rfl, rfl⟩
set_option maxHeartbeats 1000000 in
theorem can_out {w : World} {bw : Nat} {rg : Nat → Int} {q : Option Addr} {n cap : Nat} (hW : Hb w bw 42 33 (winF rg (.slice q n cap))) (i : Int) (hi : i < 0 ∨ (n : Int) ≤ i) :
    Calls Tryd.prog 9 #[.pointer (some ⟨bw, 0, none⟩), .int .i64 i] w fun e w' => e = .returned (.bool false) ∧ w = w' := by
  have cw : w.cell? ⟨bw, 32, none⟩ = some (.slice q n cap) := hW.cell (i := 32) (by omega)
  by_cases h0 : i < 0
  · go_enter Tryd.func9, Tryd.ntmps9
    go_wp2
    go_ret
    exact ⟨rfl, rfl⟩
  · have h1 : (n : Int) ≤ i := by omega
    go_enter Tryd.func9, Tryd.ntmps9
    go_wp2
    go_ret
    exact ⟨rfl, rfl⟩
set_option maxRecDepth 100000 in
set_option maxHeartbeats 2000000 in
theorem can_in {w : World} {bw : Nat} {rg : Nat → Int} {b o n cap : Nat} {E : Nat → Ez} (hW : Hb w bw 42 33 (winF rg (.slice (some ⟨b, o, none⟩) n cap))) (hE : EnL w (some ⟨b, o, none⟩) n E) (hn : n ≤ 1000000000) (hc : n ≤ cap) (j : Nat) (hj : j < n) (hH : CanH (E j).i.op) :
    Calls Tryd.prog 9 #[.pointer (some ⟨bw, 0, none⟩), .int .i64 (j : Int)] w fun e w' => e = .returned (.bool (canE (E j) (regY rg E n j (E j).i.a).2 (regY rg E n j (E j).i.b).2)) ∧ Below w.heap.size w w' := by
  have cw : w.cell? ⟨bw, 32, none⟩ = some (.slice (some ⟨b, o, none⟩) n cap) := hW.cell (i := 32) (by omega)
  have hA : EzA w b (o + j * 18) (E j) := by
    obtain ⟨b', o', hq, h⟩ := hE (by omega)
    cases hq
    exact h j hj
  have HR := hid (fun W (hB : Below w.heap.size w W) r => reg_ret (hW.below hB hW.lt) (hE.below hB) hn hc (j : Int) r)
  obtain ⟨ya, hya⟩ : ∃ y, y = regY rg E n (j : Int) (E j).i.a := ⟨_, rfl⟩
  obtain ⟨yb, hyb⟩ : ∃ y, y = regY rg E n (j : Int) (E j).i.b := ⟨_, rfl⟩
  have HA := hid (fun W (hB : Below w.heap.size w W) => by have := HR.out W hB (E j).i.a; rwa [← hya] at this)
  have HBB := hid (fun W (hB : Below w.heap.size w W) => by have := HR.out W hB (E j).i.b; rwa [← hyb] at this)
  rw [← hya, ← hyb]
  clear HR hya hyb
  obtain ⟨v, hv⟩ : ∃ v, v = canE (E j) ya.2 yb.2 := ⟨_, rfl⟩
  rw [← hv]
  obtain ⟨hac, hcm⟩ := hH
  generalize E j = e at hA HA HBB hac hcm hv ⊢
  have Hv := hid hv
  clear hv
  obtain ⟨p, hp⟩ : ∃ p, o + j * 18 = p := ⟨_, rfl⟩
  rw [hp] at hA
  have hl := load_ez hA
  have Hac := hid hac
  have Hcm := hid hcm
  clear hac hcm hA hE
  obtain ⟨ev, hev⟩ : ∃ ev, ezR e = ev := ⟨_, rfl⟩
  have hi : ev.size = 18 := by rw [← hev]; rfl
  have ho : ev.all (·.oneCell') = true := by rw [← hev]; simp [Value.oneCell']
  rw [hev] at hl
  obtain ⟨w1, hw1⟩ : ∃ w1, w.alloc (.cells ev 36) = w1 := ⟨_, rfl⟩
  have hB1 : Below w.heap.size w w1 := by rw [← hw1]; exact (Below.refl _ w).alloc (Nat.le_refl _) _
  have he : Hb w1 w.heap.size 36 18 (ezF e) := by rw [← hw1, ← hev]; exact Hb.newEz w e _
  have Hi := hid hi
  have Ho := hid ho
  clear hev hi ho
  have c11 : w1.cell? ⟨w.heap.size, 11, none⟩ = some (.int .i64 e.bad) := he.cell (i := 11) (by omega)
  have c14 : w1.cell? ⟨w.heap.size, 14, none⟩ = some (.bool e.dn) := he.cell (i := 14) (by omega)
  have c3 : w1.cell? ⟨w.heap.size, 3, none⟩ = some (.int .i64 e.i.a) := he.cell (i := 3) (by omega)
  have h0 : ¬ (j : Int) < 0 := by omega
  have h1 : ¬ (n : Int) ≤ (j : Int) := by omega
  go_enter Tryd.func9, Tryd.ntmps9
  by_cases hb : e.bad = 0
  · cases hd : e.dn
    · rw [hd] at c14
      have Hd := hid hd
      have Hb := hid hb
      rw [hb] at c11
      clear hd hb
      go_wp2_with (first
        | (refine wp_ld_of rfl 36 _ rfl rfl hl ?_)
        | (refine wp_st_of rfl 36 _ _ rfl rfl rfl (run_storeVar_new _ _ _ ev (by rw [Hi.out]; exact ezInfo) (by rw [Hi.out]; rfl) Ho.out) ?_)
        | (go_at_call 6; refine (HA.out _ hB1).mono ?_; rintro e' w2 ⟨rfl, hB2⟩; refine Hid.out ?_))
      have HB2 := hid (hB1.trans (hB2.mono hB1.size))
      have he2 := hid (he.below hB2 he.lt)
      have c4 : w2.cell? ⟨w.heap.size, 4, none⟩ = some (.int .i64 e.i.b) := he2.out.cell (i := 4) (by omega)
      have s1 := he.lt
      have HL := hid (he2.out.lt)
      clear hB1 hB2 he c3 hw1 c11 c14 s1
      refine hid ?_
      go_wp2_with (go_at_call 6; refine (HBB.out _ HB2.out).mono ?_; rintro e' w3 ⟨rfl, hB3⟩; refine Hid.out ?_)
      have HB3 := hid (HB2.out.trans (hB3.mono HB2.out.size))
      have he3 := hid (he2.out.below hB3 HL.out)
      have HL3 := hid he3.out.lt
      have c1 : w3.cell? ⟨w.heap.size, 1, none⟩ = some (.int .i64 e.i.op) := he3.out.cell (i := 1) (by omega)
      clear hB3 c4
      refine hid ?_
      go_wp2_with (go_at_call 15; refine (Hac.out _).mono ?_; rintro e' w4 ⟨rfl, hB4⟩; refine Hid.out ?_)
      have HB4 := hid (HB3.out.trans (hB4.mono HB3.out.size))
      have he4 := hid (he3.out.below hB4 HL3.out)
      have c1 : w4.cell? ⟨w.heap.size, 1, none⟩ = some (.int .i64 e.i.op) := he4.out.cell (i := 1) (by omega)
      have c10 : w4.cell? ⟨w.heap.size, 10, none⟩ = some (.bool e.kn) := he4.out.cell (i := 10) (by omega)
      clear hB4
      obtain ⟨A, hA⟩ : ∃ A, ya.2 = A := ⟨_, rfl⟩
      obtain ⟨B, hB⟩ : ∃ B, yb.2 = B := ⟨_, rfl⟩
      have Hsp : Hid (v = (bif acB e.i.op then !e.kn && A else cmpB e.i.op && (A && B))) := hid (by rw [Hv.out, hA, hB]; unfold canE; rw [Hd.out, Hb.out]; rfl)
      rw [hA, hB]
      obtain ⟨ac, hac⟩ : ∃ ac, acB e.i.op = ac := ⟨_, rfl⟩
      rw [hac] at Hsp
      rw [hac]
      obtain ⟨cm, hcm⟩ : ∃ cm, cmpB e.i.op = cm := ⟨_, rfl⟩
      have Hcm2 := hid (fun W => by have := Hcm.out W; rwa [hcm] at this)
      rw [hcm] at Hsp
      clear Hcm Hac hac hcm hA hB
      generalize e.kn = kn at c10 Hsp
      refine hid ?_
      cases ac
      · have Hs : Hid (v = (cm && (A && B))) := hid Hsp.out
        clear Hsp
        go_wp2_with (go_at_call 16; refine (Hcm2.out _).mono ?_; rintro e' w5 ⟨rfl, hB5⟩; have HB5 := hid (HB4.out.trans (hB5.mono HB4.out.size)); clear hB5; refine Hid.out ?_)
        refine hid ?_
        cases cm <;> cases A <;> cases B <;> (go_wp2; go_ret; exact ⟨by rw [Hs.out]; rfl, HB5.out⟩)
      · have Hs : Hid (v = (!kn && A)) := hid Hsp.out
        clear Hsp
        cases kn <;> cases A <;> (go_wp2; go_ret; exact ⟨by rw [Hs.out]; rfl, HB4.out⟩)
    · rw [hd] at c14
      rw [hb] at c11
      have Hs : Hid (v = false) := hid (by rw [Hv.out]; unfold canE; rw [hd, hb]; rfl)
      clear hd hb
      go_wp2_with (first
        | (refine wp_ld_of rfl 36 _ rfl rfl hl ?_)
        | (refine wp_st_of rfl 36 _ _ rfl rfl rfl (run_storeVar_new _ _ _ ev (by rw [Hi.out]; exact ezInfo) (by rw [Hi.out]; rfl) Ho.out) ?_)
        | (go_at_call 6; refine (HA.out _ hB1).mono ?_; rintro e' w2 ⟨rfl, hB2⟩; refine Hid.out ?_))
      go_ret
      exact ⟨by rw [Hs.out]; rfl, hB1⟩
  · have Hs : Hid (v = false) := hid (by rw [Hv.out]; unfold canE; rw [show (e.bad == 0) = false by simpa using hb]; rfl)
    go_wp2_with (first
        | (refine wp_ld_of rfl 36 _ rfl rfl hl ?_)
        | (refine wp_st_of rfl 36 _ _ rfl rfl rfl (run_storeVar_new _ _ _ ev (by rw [Hi.out]; exact ezInfo) (by rw [Hi.out]; rfl) Ho.out) ?_)
        | (go_at_call 6; refine (HA.out _ hB1).mono ?_; rintro e' w2 ⟨rfl, hB2⟩; refine Hid.out ?_))
    go_ret
    exact ⟨by rw [Hs.out]; rfl, hB1⟩
end Go.Proofs.YtiajbijbhhpllaaDoor
namespace Go.Proofs.YtiajbijbhhpllaaDoor
open Go Go.RowKit Sim
structure WnM (w : World) (bw : Nat) (rg : Nat → Int) (q : Option Addr) (b o n cap : Nat) (E : Nat → Ez) : Prop where
  hd : Hb w bw 42 33 (winF rg (.slice q n cap))
  rows : 0 < n → q = some ⟨b, o, none⟩ ∧ ∃ N F, Hb w b 36 N F ∧ o + n * 18 ≤ N ∧ ∀ i, i < n → ∀ k, k < 18 → F (o + i * 18 + k) = ezF (E i) k
  nc : n ≤ cap
  sm : n ≤ 1000000000
section
variable {w w' : World} {bw : Nat} {rg : Nat → Int} {q : Option Addr} {b o n cap : Nat} {E : Nat → Ez}
theorem WnM.enl (h : WnM w bw rg q b o n cap E) : EnL w q n E := fun hn => by
  obtain ⟨hq, N, F, hF, ho, hE⟩ := h.rows hn
  exact ⟨b, o, hq, fun i hi => hF.ez (hE i hi) (by have : i * 18 + 18 ≤ n * 18 := by omega
                                                   omega)⟩
theorem WnM.below (h : WnM w bw rg q b o n cap E) (hb : Below w.heap.size w w') : WnM w' bw rg q b o n cap E :=
  ⟨h.hd.below hb h.hd.lt, fun hn => by
    obtain ⟨hq, N, F, hF, ho, hE⟩ := h.rows hn
    exact ⟨hq, N, F, hF.below hb hF.lt, ho, hE⟩, h.nc, h.sm⟩
theorem WnM.fr (h : WnM w bw rg q b o n cap E) {T : List Nat} (hf : Fr T w w') (h1 : bw ∉ T) (h2 : b ∉ T) : WnM w' bw rg q b o n cap E :=
  ⟨h.hd.fr hf h1, fun hn => by
    obtain ⟨hq, N, F, hF, ho, hE⟩ := h.rows hn
    exact ⟨hq, N, F, hF.fr hf h2, ho, hE⟩, h.nc, h.sm⟩
theorem WnM.ne (h : WnM w bw rg q b o n cap E) (hn : 0 < n) : bw ≠ b := fun e => by
  obtain ⟨hq, N, F, ⟨cs, h1, _⟩, _⟩ := h.rows hn
  obtain ⟨cs2, h2, _⟩ := h.hd
  rw [← e] at h1
  rw [h1] at h2
  simp at h2
theorem updE {E : Nat → Ez} {j k : Nat} {v : Value} {e : Ez} {o n : Nat} {F : Nat → Value} (hE : ∀ i, i < n → ∀ k, k < 18 → F (o + i * 18 + k) = ezF (E i) k) (hk : k < 18) (he : ∀ m, m < 18 → updF (ezF (E j)) k v m = ezF e m) : ∀ i, i < n → ∀ m, m < 18 → updF F (o + j * 18 + k) v (o + i * 18 + m) = ezF (updF E j e i) m := fun i hi m hm => by
  unfold updF
  by_cases hij : i = j
  · subst hij
    rw [if_pos rfl, ← he m hm]
    unfold updF
    by_cases hmk : m = k
    · subst hmk; rw [if_pos rfl, if_pos rfl]
    · rw [if_neg (by omega), if_neg hmk]; exact hE i hi m hm
  · rw [if_neg (by omega), if_neg hij]; exact hE i hi m hm
theorem WnM.put (h : WnM w bw rg q b o n cap E) {j k : Nat} (hj : j < n) (hk : k < 18) {v : Value} {e : Ez} (he : ∀ m, m < 18 → updF (ezF (E j)) k v m = ezF e m) : WnM (w.setCell ⟨b, o + j * 18 + k, none⟩ v) bw rg q b o n cap (updF E j e) := by
  have hne := h.ne (by omega)
  refine ⟨h.hd.other hne v, fun hn => ?_, h.nc, h.sm⟩
  obtain ⟨hq, N, F, hF, ho, hE⟩ := h.rows hn
  exact ⟨hq, N, _, hF.set v, ho, updE hE hk he⟩
end
section
variable (e : Ez)
theorem ezF_val (x : Int) : ∀ k, k < 18 → updF (ezF e) 12 (.int .i64 x) k = ezF { e with val := x } k := lt18 (by simp [updF, ezF])
theorem ezF_ry : ∀ k, k < 18 → updF (ezF e) 13 (.bool true) k = ezF { e with ry := true } k := lt18 (by simp [updF, ezF])
theorem ezF_dn : ∀ k, k < 18 → updF (ezF e) 14 (.bool true) k = ezF { e with dn := true } k := lt18 (by simp [updF, ezF])
end
theorem updF_twice {α : Type} (f : Nat → α) (i : Nat) (u v : α) : updF (updF f i u) i v = updF f i v := by
  funext j
  unfold updF
  split <;> rfl
section
variable {w : World} {bw : Nat} {rg : Nat → Int} {q : Option Addr} {b o n cap : Nat} {E : Nat → Ez}
def doneE (e : Ez) (v : Int) : Ez := { e with val := v, ry := true, dn := true }
set_option maxHeartbeats 1000000 in
theorem compute_ret (h : WnM w bw rg q b o n cap E) {j : Nat} (hj : j < n) (v : Int) : Calls Tryd.prog 22 #[.pointer (some ⟨b, o + j * 18, none⟩), .int .i64 v] w fun e w' => (∃ u, e = .returned u) ∧ WnM w' bw rg q b o n cap (updF E j (doneE (E j) v)) ∧ Fr [b] w w' := by
  have h1 := h.put hj (k := 12) (by omega) (ezF_val (E j) v)
  have h2 := h1.put hj (k := 13) (by omega) (e := { E j with val := v, ry := true }) (by rw [updF_same]; exact ezF_ry _)
  rw [updF_twice] at h2
  have h3 := h2.put hj (k := 14) (by omega) (e := doneE (E j) v) (by rw [updF_same]; exact ezF_dn _)
  rw [updF_twice] at h3
  have hF : Fr [b] w (((w.setCell ⟨b, o + j * 18 + 12, none⟩ (.int .i64 v)).setCell ⟨b, o + j * 18 + 13, none⟩ (.bool true)).setCell ⟨b, o + j * 18 + 14, none⟩ (.bool true)) := (((Fr.refl _ w).set (.inr (by simp)) _).set (.inr (by simp)) _).set (.inr (by simp)) _
  obtain ⟨hq, N, F, hb, ho, hE⟩ := h.rows (by omega)
  have ca : ∀ k, k < 18 → w.cell? ⟨b, o + j * 18 + k, none⟩ = some (ezF (E j) k) := fun k hk => by
    rw [hb.cell (i := o + j * 18 + k) (by omega), hE j hj k hk]
  have k12 := ca 12 (by omega)
  have k13 := ca 13 (by omega)
  have k14 := ca 14 (by omega)
  have f12 := hb.free (o + j * 18 + 12)
  have f13 := hb.free (o + j * 18 + 13)
  have f14 := hb.free (o + j * 18 + 14)
  have H3 := hid h3
  have HF := hid hF
  clear h1 h2 h3 hF h hE ca hb
  go_enter Tryd.func22, Tryd.ntmps22
  go_wp2
  go_end0
  exact ⟨⟨_, rfl⟩, H3.out, HF.out⟩
end
end Go.Proofs.YtiajbijbhhpllaaDoor
namespace Go.Proofs.YtiajbijbhhpllaaDoor
open Go Go.RowKit Sim
set_option maxRecDepth 100000 in
set_option maxHeartbeats 2000000 in
theorem exe_alu {w : World} {bw : Nat} {rg : Nat → Int} {q : Option Addr} {b o n cap : Nat} {E : Nat → Ez} (h : WnM w bw rg q b o n cap E) {j : Nat} (hj : j < n) (hH : CanH (E j).i.op)
    (hcan : canE (E j) (regY rg E n j (E j).i.a).2 (regY rg E n j (E j).i.b).2 = true) (hac : acB (E j).i.op = false) (h4 : (E j).i.op ≠ 4) (hf : (formZ (E j).i.op == 4) = false) (v : Int)
    (HEv : ∀ W, Calls Tryd.prog 21 #[.int .i64 (E j).i.op, .int .i64 (regY rg E n j (E j).i.a).1, .int .i64 (wrap64 ((regY rg E n j (E j).i.b).1 + (E j).i.imm))] W fun e' w' => ∃ k, e' = .returned (.tuple #[.int .i64 v, .bool k]) ∧ Below W.heap.size W w') (vc vd ve : Value) :
    Calls Tryd.prog 10 #[.pointer (some ⟨bw, 0, none⟩), .agg #[vc, vd, ve], .int .i64 (j : Int)] w fun e' w' => e' = .returned (.bool true) ∧ WnM w' bw rg q b o n cap (updF E j (doneE (E j) v)) ∧ Fr [b] w w' := by
  obtain ⟨hq, -⟩ := h.rows (by omega)
  subst hq
  have cw : w.cell? ⟨bw, 32, none⟩ = some (.slice (some ⟨b, o, none⟩) n cap) := h.hd.cell (i := 32) (by omega)
  have HC := hid (fun W (hB : Below w.heap.size w W) => (show Calls Tryd.prog 9 #[.pointer (some ⟨bw, 0, none⟩), .int .i64 (j : Int)] W fun e w' => e = .returned (.bool true) ∧ Below W.heap.size W w' from by
    have := can_in (h.below hB).hd (h.below hB).enl h.sm h.nc j hj hH
    rwa [hcan] at this))
  have HR := hid (fun W (hB : Below w.heap.size w W) r => reg_ret (h.below hB).hd (h.below hB).enl h.sm h.nc (j : Int) r)
  have HA := hid (fun W (hB : Below w.heap.size w W) => HR.out W hB (E j).i.a)
  have HBB := hid (fun W (hB : Below w.heap.size w W) => HR.out W hB (E j).i.b)
  have HX := hid (fun W (hB : Below w.heap.size w W) => compute_ret (h.below hB) hj v)
  have Hac := hid (fun W => (show Calls Tryd.prog 15 #[.int .i64 (E j).i.op] W fun e w' => e = .returned (.bool false) ∧ Below W.heap.size W w' from by have := hH.acc W; rwa [hac] at this))
  have Hbr := hid (fun W => (show Calls Tryd.prog 19 #[.int .i64 (E j).i.op] W fun e w' => e = .returned (.bool false) ∧ Below W.heap.size W w' from by have := branch_ret (gl := fun _ => none) (E j).i.op W (GlobOk.none W); rwa [hf] at this))
  have HE := hid HEv
  have hA : EzA w b (o + j * 18) (E j) := by
    obtain ⟨b', o', hq, hh⟩ := h.enl (by omega)
    cases hq
    exact hh j hj
  clear HEv HR hac hf hcan hH
  generalize (regY rg E n j (E j).i.a) = ya at HA HE
  generalize (regY rg E n j (E j).i.b) = yb at HBB HE
  obtain ⟨p, hp⟩ : ∃ p, o + j * 18 = p := ⟨_, rfl⟩
  rw [hp] at hA
  have Hh := hid h
  clear h
  obtain ⟨E', hE'⟩ : ∃ E', updF E j (doneE (E j) v) = E' := ⟨_, rfl⟩
  have HX2 := hid (fun W (hB : Below w.heap.size w W) => by have := HX.out W hB; rwa [hE', hp] at this)
  rw [hE']
  clear HX hE'
  generalize E j = e at *
  obtain ⟨w1, hw1⟩ : ∃ w1, w.alloc (.cells #[vc, vd, ve] 25) = w1 := ⟨_, rfl⟩
  have hB1 : Below w.heap.size w w1 := by rw [← hw1]; exact (Below.refl _ w).alloc (Nat.le_refl _) _
  go_enter Tryd.func10, Tryd.ntmps10
  go_wp2_with (go_at_call 9; refine (HC.out _ hB1).mono ?_; rintro e' w2 ⟨rfl, hB2⟩; refine Hid.out ?_)
  have HB2 := hid (hB1.trans (hB2.mono hB1.size))
  have cw2 : w2.cell? ⟨bw, 32, none⟩ = some (.slice (some ⟨b, o, none⟩) n cap) := (Hh.out.below HB2.out).hd.cell (i := 32) (by omega)
  have hA2 := hA.below HB2.out hA.lt
  have k1 : w2.cell? ⟨b, p + 1, none⟩ = some (.int .i64 e.i.op) := hA2 1 (by omega)
  have k3 : w2.cell? ⟨b, p + 3, none⟩ = some (.int .i64 e.i.a) := hA2 3 (by omega)
  have k5 : w2.cell? ⟨b, p + 1 + 4, none⟩ = some (.int .i64 e.i.imm) := hA2 5 (by omega)
  clear hB1 hB2 hw1 cw hA2
  refine hid ?_
  go_wp2
  go_quiet (fail)
  have Hd := hid (fun k => show Below w.heap.size w (w2.drewN k) from ⟨HB2.out.os, HB2.out.tape, HB2.out.output, HB2.out.size, HB2.out.block⟩)
  clear k1 k5
  go_wp2_with (go_at_call 6; refine (HA.out _ (Hd.out _)).mono ?_; rintro e' w3 ⟨rfl, hB3⟩; have HB3 := hid ((Hd.out _).trans (hB3.mono (Hd.out _).size)); clear hB3; refine Hid.out ?_)
  have hA3 := hA.below HB3.out hA.lt
  have k4 : w3.cell? ⟨b, p + 1 + 3, none⟩ = some (.int .i64 e.i.b) := hA3 4 (by omega)
  have k4' : w3.cell? ⟨b, p + 4, none⟩ = some (.int .i64 e.i.b) := hA3 4 (by omega)
  clear hA3 k3 Hd HB2
  refine hid ?_
  go_wp2_with (go_at_call 6; refine (HBB.out _ HB3.out).mono ?_; rintro e' w4 ⟨rfl, hB4⟩; have HB4 := hid (HB3.out.trans (hB4.mono HB3.out.size)); clear hB4 k4 k4'; refine Hid.out ?_)
  clear HB3 HA HBB
  refine hid ?_
  go_wp2_with (go_at_call 15; refine (Hac.out _).mono ?_; rintro e' w5 ⟨rfl, hB5⟩; have HB5 := hid (HB4.out.trans (hB5.mono HB4.out.size)); clear hB5; refine Hid.out ?_)
  clear HB4
  have h4' : (e.i.op == 4) = false := by simpa using h4
  refine hid ?_
  go_wp2_with (go_at_call 19; refine (Hbr.out _).mono ?_; rintro e' w6 ⟨rfl, hB6⟩; have HB6 := hid (HB5.out.trans (hB6.mono HB5.out.size)); clear hB6; refine Hid.out ?_)
  clear HB5
  refine hid ?_
  go_wp2_with (go_at_call 21; refine (HE.out _).mono ?_; rintro e' w7 ⟨k, rfl, hB7⟩; have HB7 := hid (HB6.out.trans (hB7.mono HB6.out.size)); clear hB7; refine Hid.out ?_)
  clear HB6
  have HF := hid (Fr.of_below (T := [b]) (HB7.out.mono (Nat.le_refl _)))
  refine hid ?_
  go_wp2_with (go_at_call 22; refine (HX2.out _ HB7.out).mono ?_; rintro e' w8 ⟨⟨u, rfl⟩, hW8, hF8⟩; have HW8 := hid hW8; have HF8 := hid (HF.out.trans hF8); clear hW8 hF8; refine Hid.out ?_)
  refine hid ?_
  go_wp2
  go_ret
  exact ⟨rfl, HW8.out, HF8.out⟩
end Go.Proofs.YtiajbijbhhpllaaDoor
namespace Go.Proofs.YtiajbijbhhpllaaDoor
open Go.RowKit Sim
def opG (o f3 : Int) (p1 p2 b30 : Bool) (f5 : Int) (b12 b20 : Bool) : Int :=
  let im := fun (op ar : Int) => bif f3 == 5 then (bif b30 then ar else op) else op
  let by7 := fun (s p q : Int) => bif p1 then p else bif p2 then q else s
  bif o == 3 then atZ ldL 0 f3 else bif o == 15 then 63 else bif o == 19 then im (atZ imL 0 f3) 30 else bif o == 23 then 2
  else bif o == 27 then im (atZ imwL 0 f3) 34 else bif o == 35 then atZ stL 0 f3 else bif o == 47 then (bif amoWZ f5 != 0 then (bif b12 then amoWZ f5 + 11 else amoWZ f5) else amoWZ f5)
  else bif o == 51 then by7 (atZ suL 0 f3) (atZ prL 0 f3) (atZ otL 0 f3) else bif o == 55 then 1
  else bif o == 59 then by7 (atZ suwL 0 f3) (atZ prwL 0 f3) (atZ otwL 0 f3) else bif o == 99 then atZ brL 0 f3
  else bif o == 103 then 4 else bif o == 111 then 3 else bif o == 115 then (bif b20 then 65 else 64) else 0
theorem cond_rng (b : Bool) (x y : Int) (h : 0 ≤ x ∧ x ≤ 76) (h' : 0 ≤ y ∧ y ≤ 76) : 0 ≤ (bif b then x else y) ∧ (bif b then x else y) ≤ 76 := by cases b <;> assumption
theorem amoWZ_rng (s : Int) : 0 ≤ amoWZ s ∧ amoWZ s ≤ 76 := by
  unfold amoWZ
  repeat' (refine cond_rng _ _ _ (by omega) ?_)
  omega
theorem operZ_eq (v : Int) (hv : w32B v = true) : operZ (v / 4096 % 8) v = opG (v % 128) (v / 4096 % 8) (v / 33554432 % 128 == 1) (v / 33554432 % 128 == 32) (v / 1073741824 % 2 == 1) (v / 134217728 % 32) (v / 4096 % 2 == 1) (v / 1048576 % 2 == 1) := by
  have L := fun a n p q h => get_lit v a n p q hv h
  have e0 : getZ v 0 7 = v % 128 := by rw [L 0 7 1 128 (by decide), Int.ediv_one]
  have hw : IntKind.i64.wrap (amoWZ (v / 134217728 % 32) + 11) = amoWZ (v / 134217728 % 32) + 11 := i64_id _ (by have := amoWZ_rng (v / 134217728 % 32); omega) (by have := amoWZ_rng (v / 134217728 % 32); omega)
  unfold operZ opG immediateZ byF7Z amoZ systemZ
  rw [e0, L 12 3 4096 8 (by decide), L 25 7 33554432 128 (by decide), L 30 1 1073741824 2 (by decide), L 27 5 134217728 32 (by decide), L 12 1 4096 2 (by decide), L 20 1 1048576 2 (by decide), hw]
def opOk (n : Nat) (f3 : Nat) (p1 p2 b30 b12 b20 : Bool) : Bool :=
  let k := formZ n; let W := wordZ n
  (has3 k && !((f3 : Int) == part3 W && b12 == (W / 4096 % 2 == 1))) || (has25 k && !(p1 == (W / 33554432 % 128 == 1) && p2 == (W / 33554432 % 128 == 32))) || (has26 k && !(b30 == (W / 1073741824 % 2 == 1))) || (hasB5 k && !(b20 == (W / 1048576 % 2 == 1)))
    || opG (W % 128) f3 p1 p2 b30 (W / 134217728 % 32) b12 b20 == n
theorem op_all : ∀ (n : Fin 88) (f3 : Fin 8) (p1 p2 b30 b12 b20 : Bool), n.val = 0 ∨ opOk n.val f3.val p1 p2 b30 b12 b20 = true := by decide +kernel
theorem no27 : ∀ n : Fin 88, n.val = 0 ∨ has27 (formZ n.val) = true ∨ (wordZ n.val % 128 == 47) = false := by decide +kernel
theorem oper_of {v : Int} {i : In} (hv : w32B v = true) (hm : mayB i = true) (he : encZ i = v) : operZ (v / 4096 % 8) v = i.op := by
  have hr : 0 ≤ v ∧ v < 4294967296 := by simpa [w32B] using hv
  have ho := may_ok hm
  have hf := enc_fix hm
  rw [he] at hf
  have hk := form_rng ho
  obtain ⟨a1, a2, a3, a4, a5, a6⟩ := fix_parts hk.1 hk.2 hf
  rw [operZ_eq v hv]
  rcases op_cases i.op with ⟨n, n1, n2, hn⟩ | h
  · rw [hn] at a1 a2 a3 a4 a5 a6 ⊢
    have h5 : opG (v % 128) (v / 4096 % 8) (v / 33554432 % 128 == 1) (v / 33554432 % 128 == 32) (v / 1073741824 % 2 == 1) (v / 134217728 % 32) (v / 4096 % 2 == 1) (v / 1048576 % 2 == 1)
        = opG (v % 128) (v / 4096 % 8) (v / 33554432 % 128 == 1) (v / 33554432 % 128 == 32) (v / 1073741824 % 2 == 1) (wordZ n / 134217728 % 32) (v / 4096 % 2 == 1) (v / 1048576 % 2 == 1) := by
      rcases no27 ⟨n, n2⟩ with h | h | h
      · simp at h; omega
      · rw [a5 h]
      · simp only at h
        rw [← a1] at h
        unfold opG
        rw [h]
        simp only [cond_false]
    rw [h5, a1]
    have hf3 : v / 4096 % 8 = ((v / 4096 % 8).toNat : Int) := by omega
    rcases op_all ⟨n, n2⟩ ⟨(v / 4096 % 8).toNat, by omega⟩ (v / 33554432 % 128 == 1) (v / 33554432 % 128 == 32) (v / 1073741824 % 2 == 1) (v / 4096 % 2 == 1) (v / 1048576 % 2 == 1) with h | h
    · simp at h; omega
    · unfold opOk at h
      simp only [Bool.or_eq_true, Bool.and_eq_true, Bool.not_eq_true', ← hf3] at h
      rcases h with (((⟨h1, h2⟩ | ⟨h1, h2⟩) | ⟨h1, h2⟩) | ⟨h1, h2⟩) | h
      · exfalso
        have b := a2 h1
        have b' : v / 4096 % 2 = wordZ n / 4096 % 2 := by unfold part3 at b; omega
        rw [← b, b'] at h2
        simp [part3] at h2
      · exfalso
        rw [a3 h1] at h2
        simp at h2
      · exfalso
        have b := a4 h1
        have e : ∀ x : Int, x / 1073741824 = x / 67108864 / 16 := fun x => by omega
        have b' : v / 1073741824 % 2 = wordZ n / 1073741824 % 2 := by rw [e, e (wordZ n), b]
        rw [b'] at h2
        simp at h2
      · exfalso
        have b := a6 h1
        have b' : v / 1048576 % 2 = wordZ n / 1048576 % 2 := by omega
        rw [b'] at h2
        simp at h2
      · simpa using h
  · rw [okB_out h] at ho; cases ho
noncomputable def pDecC : PTab := orP pOperation pRead
theorem pDecC_ok : PTabOk Tryd.prog decGl pDecC := pOperation_ok.or pRead_ok
theorem tEncD_ok : TabOk Tryd.prog decGl tEncode := TabOk.more tEncode_ok dec_enc
noncomputable def readV (v : Int) : In := readZ5 (operZ (v / 4096 % 8) v) v
theorem decode_bad1 (v : Int) (hv : w32B v = true) (h : (errE (readV v) != 0) = true) (w : World) (hG : GlobOk decGl w) : Ret Tryd.prog 42 #[.int .u32 v] (inV ⟨0, 0, 0, 0, IntKind.i64.wrap v, false, false⟩) w :=
  retP tEncD_ok pDecC_ok (fuel := 1000) O1 [true] (v := inV ⟨0, 0, 0, 0, IntKind.i64.wrap v, false, false⟩) [(errE (readV v) != 0, true), (pre (w32B v), true), (pre (w32B v), true)] (by kernel_rfl) (by simp [pre, hv, h]) w hG
theorem decode_bad2 (v : Int) (hv : w32B v = true) (h : (errE (readV v) != 0) = false) (h' : (wordE (readV v) != v) = true) (w : World) (hG : GlobOk decGl w) : Ret Tryd.prog 42 #[.int .u32 v] (inV ⟨0, 0, 0, 0, IntKind.i64.wrap v, false, false⟩) w :=
  retP tEncD_ok pDecC_ok (fuel := 1000) O1 [false, true] (v := inV ⟨0, 0, 0, 0, IntKind.i64.wrap v, false, false⟩) [(wordE (readV v) != v, true), (errE (readV v) != 0, false), (pre (w32B v), true), (pre (w32B v), true)] (by kernel_rfl) (by simp [pre, hv, h, h']) w hG
theorem decode_good (v : Int) (hv : w32B v = true) (h : (errE (readV v) != 0) = false) (h' : (wordE (readV v) != v) = false) (w : World) (hG : GlobOk decGl w) : Ret Tryd.prog 42 #[.int .u32 v] (inV (readV v)) w :=
  retP tEncD_ok pDecC_ok (fuel := 1000) O1 [false, false] (v := inV (readV v)) [(wordE (readV v) != v, false), (errE (readV v) != 0, false), (pre (w32B v), true), (pre (w32B v), true)] (by kernel_rfl) (by simp [pre, hv, h, h']) w hG
theorem decode_ret (v : Int) (hv : w32B v = true) (w : World) (hG : GlobOk decGl w) : Ret Tryd.prog 42 #[.int .u32 v] (inV (decodeZ v)) w := by
  have hr : 0 ≤ v ∧ v < 4294967296 := by simpa [w32B] using hv
  by_cases h : ∃ i, mayB i = true ∧ encZ i = v
  · obtain ⟨i, h1, h2⟩ := h
    have ho := may_ok h1
    have e : readV v = i := by
      unfold readV
      rw [oper_of hv h1 h2, readZ5_yes ho]
      have := enc_as h1
      rw [h2] at this
      exact this
    rw [decodeZ_yes h1 h2]
    have := decode_good v hv (by rw [e]; simp [errE, h1]) (by rw [e]; simp [wordE, h1, h2]) w hG
    rw [e] at this
    exact this
  · have hn : ∀ i, mayB i = true → encZ i ≠ v := fun i h1 h2 => h ⟨i, h1, h2⟩
    rw [decodeZ_no hn]
    have hw : IntKind.i64.wrap v = v := i64_id v hr.1 hr.2
    cases hm : mayB (readV v)
    · have := decode_bad1 v hv (by simp [errE, hm]) w hG
      rw [hw] at this; exact this
    · have := decode_bad2 v hv (by simp [errE, hm]) (by simpa [wordE, hm] using hn _ hm) w hG
      rw [hw] at this; exact this
noncomputable def pDecode : PTab := prowD 42 decDecode
theorem pDecode_ok : PTabOk Tryd.prog decGl pDecode := .rowD fun args u hd w hG => by
  unfold decDecode at hd
  split at hd
  · rename_i v
    simp only [Option.some.injEq, Prod.mk.injEq, pre] at hd
    obtain ⟨rfl, hc⟩ := hd
    exact decode_ret v hc w hG
  · cases hd
end Go.Proofs.YtiajbijbhhpllaaDoor
namespace Go.Proofs.YtiajbijbhhpllaaDoor
open Go.RowKit Sim S2
def w32L (o : Bool) (n : Nat) (c : Nat → Int) : LE := ⟨48, 1, n, fun i => [.int .u32 (c i)], o, false, true⟩
def intL (o : Bool) (n : Nat) (c : Nat → Int) : LE := ⟨3, 1, n, fun i => [.int .i64 (c i)], o, false, true⟩
structure Im where
  n : Nat
  m : Nat
  h : Nat
  c : Nat → Int
  d : Nat → Int
  e : Nat → Int
def imX (o : Bool) (i : Im) : XV := .st [.inr (w32L o i.n i.c), .inr (intL o i.m i.d), .inr (intL o i.h i.e)]
end Go.Proofs.YtiajbijbhhpllaaDoor
namespace Go.Proofs.YtiajbijbhhpllaaDoor
open Go.RowKit
theorem or_zero (x : Nat) (hx : x < 4294967296) : bits .or .u32 (x : Int) 0 = x := by
  have := u32_or_nat x 0 hx (by omega)
  simpa using this
end Go.Proofs.YtiajbijbhhpllaaDoor
namespace Go.Proofs.YtiajbijbhhpllaaDoor
open Go.RowKit Sim S2
def isIm (i : Im) (cs : List (Sum Value LE)) : Prop := ∃ a b c, cs = [.inr a, .inr b, .inr c] ∧ { a with own := false } = w32L false i.n i.c ∧ { b with own := false } = intL false i.m i.d ∧ { c with own := false } = intL false i.h i.e
theorem inB_own {B : Nat} {w : World} {e : LE} {v : Value} {e' : LE} (h : InB B w e v) (he : { e with own := false } = e') : InB B w e' v := by
  subst he
  exact h
theorem isIm_args {i : Im} {cs : List (Sum Value LE)} (h : isIm i cs) {w : World} {us : List Value} (hc : CellsOk w cs us) : ∃ u0 u1 u2, us = [u0, u1, u2] ∧ InB w.heap.size w (w32L false i.n i.c) u0 ∧ InB w.heap.size w (intL false i.m i.d) u1 ∧ InB w.heap.size w (intL false i.h i.e) u2 := by
  obtain ⟨a, b, c, rfl, h0, h1, h2⟩ := h
  match us, hc with
  | [u0, u1, u2], hc => exact ⟨u0, u1, u2, rfl, inB_own hc.1 h0, inB_own hc.2.1 h1, inB_own hc.2.2.1 h2⟩
theorem isIm_ok {i : Im} {cs : List (Sum Value LE)} (h : isIm i cs) {w : World} {r : List XV} {vals : List Value} (ha : ArgsOk w (.st cs :: r) vals) : ∃ v vs, vals = v :: vs ∧ ArgsOk w [imX false i] [v] ∧ ArgsOk w r vs := by
  cases vals with
  | nil => exact ha.elim
  | cons v vs =>
    obtain ⟨⟨us, rfl, hc⟩, hr⟩ := ha
    obtain ⟨u0, u1, u2, rfl, g0, g1, g2⟩ := isIm_args h hc
    exact ⟨_, vs, rfl, ⟨⟨[u0, u1, u2], rfl, g0, g1, g2, trivial⟩, trivial⟩, hr⟩
end Go.Proofs.YtiajbijbhhpllaaDoor
namespace Go.Proofs.YtiajbijbhhpllaaDoor
open Go.RowKit Sim S2
def c32 (i : Im) : Prop := ∀ j, j < i.n → 0 ≤ i.c j ∧ i.c j < 4294967296
end Go.Proofs.YtiajbijbhhpllaaDoor
namespace Go.Proofs.YtiajbijbhhpllaaDoor
open Go.ChangeShapes Go.WideShapes Go.ChangeAt Go.RowKit
def SliceIn (k : IntKind) (w : World) (a : Option Addr) (len cap : Nat) (zs : List Int) : Prop :=
  len ≤ cap ∧ cap ≤ maxLen ∧ zs.length = cap ∧ (∀ n ∈ zs, (Lit.int k n).wf = true) ∧
    (0 < cap → ∃ b off, a = some ⟨b, off, none⟩ ∧ b < w.heap.size ∧ ∀ i, i < cap → w.cell? ⟨b, off + i, none⟩ = some (.int k (zs.getD i 0)))
section
variable {H : Type} {enc : TypeId × Value → H} {P : Program} {w : World} {base : Nat} {spare : Nat → Bool} {held : Bool}
theorem slice_in {t e : TypeId} {k : IntKind} {a : Option Addr} {len cap : Nat} {d : DataW H} {p : List MemPlace} (ht : P.underlying t = some (.slice e)) (he : P.underlying e = some (.int k)) (hC : P.cellsOf e = 1)
    (h : DataW.Trod enc P w 0 (fun _ => true) true t (.slice a len cap) d p) : ∃ zs, SliceIn k w a len cap zs := by
  obtain ⟨fuel, hf⟩ := h
  rcases open_ints ht he hC hf with ⟨hcs, _⟩ | ⟨x, l, c, zs, hcs, _, hl, hm, hz, _, hcell, hwz⟩
  · simp [Value.cells] at hcs
    obtain ⟨rfl, rfl, rfl⟩ := hcs
    exact ⟨[], by omega, by simp, rfl, by simp, fun h => by omega⟩
  · simp [Value.cells] at hcs
    obtain ⟨rfl, rfl, rfl⟩ := hcs
    have hz' : zs.length = cap := by simpa using hz
    refine ⟨zs, hl, hm, hz', hwz, fun hp => ?_⟩
    obtain ⟨b, off, rfl, hc⟩ := ints_at hcell (by omega)
    refine ⟨b, off, rfl, ?_, fun i hi => hc i (by omega)⟩
    have h0 := hc 0 (by omega)
    rcases Nat.lt_or_ge b w.heap.size with hlt | hge
    · exact hlt
    · simp [World.cell?, Array.getElem?_eq_none hge] at h0
end
end Go.Proofs.YtiajbijbhhpllaaDoor
namespace Go.Proofs.YtiajbijbhhpllaaDoor
open Go.RowKit Go.ChangeShapes Go.WideShapes Go.ChangeAt Go.Deep Sim S2
section
variable {H : Type} {enc : TypeId × Value → H} {P : Program} {w : World}
theorem slice_cell {t e : TypeId} {n : Nat} {c : Value} {y : DataW H × List MemPlace} (ht : P.underlying t = some (.slice e)) (h : DataW.trod enc P w 0 (fun _ => true) true n t [c] = some y) : ∃ a len cap, c = .slice a len cap ∧ DataW.Trod enc P w 0 (fun _ => true) true t (.slice a len cap) y.1 y.2 := by
  rcases DataW.trod_slice ht h with ⟨hcs, _⟩ | ⟨a0, len0, cap0, _, _, _, _, hcs, _⟩
  · have hc : c = .slice none 0 0 := by simpa [Value.cells] using hcs
    subst hc
    exact ⟨none, 0, 0, rfl, n, h⟩
  · have hc : c = .slice (some a0) len0 cap0 := by simpa [Value.cells] using hcs
    subst hc
    exact ⟨_, _, _, rfl, n, h⟩
end
end Go.Proofs.YtiajbijbhhpllaaDoor
namespace Go.Proofs.YtiajbijbhhpllaaDoor
open Go.RowKit Go.ChangeShapes Go.WideShapes Go.ChangeAt Go.Deep Sim S2
theorem sliceIn_inB {k : IntKind} {w : World} {a : Option Addr} {len cap : Nat} {zs : List Int} (h : SliceIn k w a len cap zs) (T : TypeId) (o d p : Bool) : InB w.heap.size w ⟨T, 1, len, fun i => [.int k (zs.getD i 0)], o, d, p⟩ (.slice a len cap) := by
  obtain ⟨h1, h2, h3, h4, h5⟩ := h
  refine ⟨⟨by show 0 < 1; omega, fun j hj => ⟨rfl, rfl⟩⟩, a, cap, rfl, h1, fun hn => ?_⟩
  have hn : 0 < len := hn
  obtain ⟨b, off, ha, hb, hc⟩ := h5 (by omega)
  refine ⟨b, off, ha, hb, fun j hj x c hx => ?_⟩
  have hj : j < len := hj
  cases x with
  | zero =>
    have hx : some (Value.int k (zs.getD j 0)) = some c := hx
    rw [← hx]
    have := hc j (by omega)
    show w.cell? ⟨b, off + j * 1 + 0, none⟩ = _
    rw [Nat.mul_one, Nat.add_zero]; exact this
  | succ x => simp at hx
theorem sliceIn_rng {k : IntKind} {w : World} {a : Option Addr} {len cap : Nat} {zs : List Int} (h : SliceIn k w a len cap zs) (i : Nat) (hi : i < len) : (Lit.int k (zs.getD i 0)).wf = true := by
  obtain ⟨h1, h2, h3, h4, h5⟩ := h
  have hl : i < zs.length := by omega
  rw [List.getD_eq_getElem?_getD, List.getElem?_eq_getElem hl]
  exact h4 _ (List.getElem_mem hl)
section
variable {H : Type} {enc : TypeId × Value → H} {P : Program} {w : World}
theorem open_slices3 {r : Reach} {b0 : Nat} {t : TypeId} {f0 f1 f2 : Field} {e0 e1 e2 : TypeId} {k0 k1 k2 : IntKind} {v : Value} {d : DataW H} {p : List MemPlace} (ht : P.underlying t = some (.struct #[f0, f1, f2]))
    (u0 : P.underlying f0.type = some (.slice e0)) (u1 : P.underlying f1.type = some (.slice e1)) (u2 : P.underlying f2.type = some (.slice e2)) (i0 : P.underlying e0 = some (.int k0)) (i1 : P.underlying e1 = some (.int k1)) (i2 : P.underlying e2 = some (.int k2))
    (c0 : P.cellsOf e0 = 1) (c1 : P.cellsOf e1 = 1) (c2 : P.cellsOf e2 = 1) (ho : (f0.offset, f1.offset, f2.offset, P.cellsOf f0.type, P.cellsOf f1.type, P.cellsOf f2.type, P.cellsOf t) = (0, 1, 2, 1, 1, 1, 3))
    (hv : Value.okWide P w r b0 t v) (h : DataW.Trod enc P w 0 (fun _ => true) true t v d p) :
    ∃ a0 l0 q0 z0 a1 l1 q1 z1 a2 l2 q2 z2, v = .agg #[.slice a0 l0 q0, .slice a1 l1 q1, .slice a2 l2 q2] ∧ SliceIn k0 w a0 l0 q0 z0 ∧ SliceIn k1 w a1 l1 q1 z1 ∧ SliceIn k2 w a2 l2 q2 z2 := by
  obtain ⟨cs, rfl, hsz⟩ := okWide_struct ht hv
  obtain ⟨fuel, hf⟩ := h
  simp only [Prod.mk.injEq] at ho
  obtain ⟨o0, o1, o2, s0, s1, s2, st⟩ := ho
  obtain ⟨y0, y1, y2, n, _, hl, h0, h1, h2⟩ := trod_struct3 ht hf
  rw [o0, s0] at h0
  rw [o1, s1] at h1
  rw [o2, s2] at h2
  rw [st] at hl
  obtain ⟨x0, x1, x2, hx⟩ : ∃ x0 x1 x2, cs.toList = [x0, x1, x2] := by
    have hl : cs.toList.length = 3 := hl
    match hcs : cs.toList, hl with
    | [x0, x1, x2], _ => exact ⟨x0, x1, x2, rfl⟩
  have hc : (Value.agg cs).cells.toList = [x0, x1, x2] := hx
  rw [hc] at h0 h1 h2
  obtain ⟨a0, l0, q0, rfl, t0⟩ := slice_cell u0 h0
  obtain ⟨a1, l1, q1, rfl, t1⟩ := slice_cell u1 h1
  obtain ⟨a2, l2, q2, rfl, t2⟩ := slice_cell u2 h2
  obtain ⟨z0, k0⟩ := slice_in u0 i0 c0 t0
  obtain ⟨z1, k1⟩ := slice_in u1 i1 c1 t1
  obtain ⟨z2, k2⟩ := slice_in u2 i2 c2 t2
  refine ⟨a0, l0, q0, z0, a1, l1, q1, z1, a2, l2, q2, z2, ?_, k0, k1, k2⟩
  rw [← Array.toArray_toList (xs := cs), hx]
end
structure wfIm (i : Im) : Prop where
  n : i.n ≤ 9223372036854775807
  m : i.m ≤ 9223372036854775807
  h : i.h ≤ 9223372036854775807
  c : ∀ j, j < i.n → 0 ≤ i.c j ∧ i.c j < 4294967296
  d : ∀ j, j < i.m → -9223372036854775808 ≤ i.d j ∧ i.d j ≤ 9223372036854775807
  e : ∀ j, j < i.h → -9223372036854775808 ≤ i.e j ∧ i.e j ≤ 9223372036854775807
set_option maxRecDepth 100000 in
theorem im_in {H : Type} {enc : TypeId × Value → H} {w : World} {r : Reach} {b0 : Nat} {v : Value} {d : DataW H} {p : List MemPlace} (hv : Value.okWide Tryd.prog w r b0 25 v) (h : DataW.Trod enc Tryd.prog w 0 (fun _ => true) true 25 v d p) : ∃ i : Im, wfIm i ∧ ∀ o, ArgsOk w [imX o i] [v] := by
  obtain ⟨a0, l0, q0, z0, a1, l1, q1, z1, a2, l2, q2, z2, rfl, k0, k1, k2⟩ := open_slices3 (k0 := .u32) (k1 := .i64) (k2 := .i64) Tryd.underlying25 Tryd.underlying22 Tryd.underlying23 Tryd.underlying23 Tryd.underlying48 Tryd.underlying3 Tryd.underlying3 (by kernel_rfl) (by kernel_rfl) (by kernel_rfl) (by kernel_rfl) hv h
  refine ⟨⟨l0, l1, l2, fun j => z0.getD j 0, fun j => z1.getD j 0, fun j => z2.getD j 0⟩, ⟨?_, ?_, ?_, fun j hj => (by have := bounds_u32 (sliceIn_rng k0 j hj); show 0 ≤ z0.getD j 0 ∧ z0.getD j 0 < 4294967296; omega), fun j hj => bounds_i64 (sliceIn_rng k1 j hj), fun j hj => bounds_i64 (sliceIn_rng k2 j hj)⟩, fun o => ?_⟩
  · have h1 := k0.1; have h2 := k0.2.1; simp only [maxLen] at h2; show l0 ≤ _; omega
  · have h1 := k1.1; have h2 := k1.2.1; simp only [maxLen] at h2; show l1 ≤ _; omega
  · have h1 := k2.1; have h2 := k2.2.1; simp only [maxLen] at h2; show l2 ≤ _; omega
  · exact ⟨⟨_, rfl, sliceIn_inB k0 _ _ _ _, sliceIn_inB k1 _ _ _ _, sliceIn_inB k2 _ _ _ _, trivial⟩, trivial⟩
end Go.Proofs.YtiajbijbhhpllaaDoor
namespace Go.Proofs.YtiajbijbhhpllaaDoor
open Go.RowKit Sim S2
noncomputable def envF8p : S2.Env := envl Tryd.prog decGl noT pDecode noL (fun _ => none)
theorem envF8p_ok : CallOk envF8p := envl_ok (.none _ _) pDecode_ok (.none _ _) .none
def inV0 : Value := (Value.agg #[.int .i64 0, .int .i64 0, .int .i64 0, .int .i64 0, .int .i64 0, .bool false, .bool false])
def hasZ (b s : Int) (n : Nat) (a : Int) : Prop := b ≤ a ∧ (a - b) % s = 0 ∧ (a - b) / s < (n : Int)
def isI (a : Int) : Prop := -9223372036854775808 ≤ a ∧ a ≤ 9223372036854775807
noncomputable def qZ (b s a : Int) : Int := arZ .quo .i64 (a - b) s
noncomputable def mZ (b s a : Int) : Int := arZ .rem .i64 (a - b) s
def smIm2 (i : Im) : Prop := i.n ≤ 1000000000 ∧ i.m ≤ 1000000000
theorem qZ_eq {b s a : Int} (hb : 0 ≤ b) (hs : 0 < s) (h : b ≤ a) (ha : isI a) : qZ b s a = (a - b) / s := by
  unfold qZ
  rw [arZ_eq]
  show IntKind.i64.wrap ((a - b).tdiv s) = _
  rw [Int.tdiv_eq_ediv_of_nonneg (by omega), IntKind.wrap_i64]
  have h0 : 0 ≤ (a - b) / s := Int.ediv_nonneg (by omega) (by omega)
  have h1 : (a - b) / s ≤ a - b := Int.ediv_le_self s (by omega)
  have := ha.2
  omega
theorem mZ_eq {b s a : Int} (h : b ≤ a) : mZ b s a = (a - b) % s := by
  unfold mZ
  rw [arZ_eq]
  show (a - b).tmod s = _
  exact Int.tmod_eq_emod_of_nonneg (by omega)
theorem bneT {x y : Int} (h : x ≠ y) : (x != y) = true := by simpa using h
theorem bneF {x y : Int} (h : x = y) : (x != y) = false := by simpa using h
theorem w32B_of {x : Int} (h : 0 ≤ x ∧ x < 4294967296) : w32B x = true := by
  unfold w32B
  simp only [Bool.and_eq_true, decide_eq_true_eq]
  first | exact h | omega
theorem fe1 (i : Im) (a : Int) : S2.simF envF8p 1000 30 [] [true] 26 [[], [true]] [imX false i, .inl (.int .i64 a)] = some (false, [.inl (.tuple #[inV0, .bool false])], [(decide (a < 65536), true)], []) := by kernel_rfl
theorem fe2 (i : Im) (a : Int) : S2.simF envF8p 1000 30 [] [false, true] 26 [[], [true]] [imX false i, .inl (.int .i64 a)] = some (false, [.inl (.tuple #[inV0, .bool false])], [(mZ 65536 4 a != 0, true), (pre (inI (a - 65536)), true), (decide (a < 65536), false)], []) := by kernel_rfl
theorem fe3 (i : Im) (a : Int) : S2.simF envF8p 1000 30 [] [false, false, true] 26 [[], [true]] [imX false i, .inl (.int .i64 a)] = some (false, [.inl (.tuple #[inV0, .bool false])], [(decide (qZ 65536 4 a ≥ (i.n : Int)), true), (mZ 65536 4 a != 0, false), (pre (inI (a - 65536)), true), (decide (a < 65536), false)], []) := by kernel_rfl
theorem fe4 (i : Im) (a : Int) : S2.simF envF8p 1000 30 [] [false, false, false, false] 26 [[], [true]] [imX false i, .inl (.int .i64 a)] = some (false, [.inl (.tuple #[inV (decodeZ (i.c (qZ 65536 4 a).toNat)), .bool true])], [(pre (w32B (i.c (qZ 65536 4 a).toNat)), true), (pre (decide ((qZ 65536 4 a).toNat < i.n)), true), (pre (idxB (qZ 65536 4 a) i.n), true), (false, false), (decide (qZ 65536 4 a ≥ (i.n : Int)), false), (mZ 65536 4 a != 0, false), (pre (inI (a - 65536)), true), (decide (a < 65536), false)], []) := by kernel_rfl
theorem fe_no (i : Im) (a : Int) (hs : smIm2 i) (ha : isI a) (w : World) (hG : GlobOk decGl w) (vals : List Value) (hv : ArgsOk w [imX false i, .inl (.int .i64 a)] vals) (h : ¬ hasZ 65536 4 i.n a) : LRet Tryd.prog 26 vals false [.inl (.tuple #[inV0, .bool false])] w := by
  obtain ⟨ha0, ha1⟩ := ha
  by_cases c1 : a < 65536
  · exact fn_ok envF8p_ok (fe1 i a) (all_cons (ob_yes c1) all_nil) Tryd.func26 w vals hG hv fun t ht => by cases ht
  have e2 := mZ_eq (b := 65536) (s := 4) (a := a) (by omega)
  have e1 := qZ_eq (b := 65536) (s := 4) (a := a) (by decide) (by decide) (by omega) ⟨ha0, ha1⟩
  by_cases c2 : (a - 65536) % 4 = 0
  · by_cases c3 : (a - 65536) / 4 < (i.n : Int)
    · exact absurd ⟨by omega, c2, c3⟩ h
    · exact fn_ok envF8p_ok (fe3 i a) (all_cons (ob_yes (by rw [e1]; omega)) <| all_cons (bneF (by rw [e2]; exact c2)) <| all_cons (ob_inI (by omega)) <| all_cons (ob_no c1) all_nil) Tryd.func26 w vals hG hv fun t ht => by cases ht
  · exact fn_ok envF8p_ok (fe2 i a) (all_cons (bneT (by rw [e2]; exact c2)) <| all_cons (ob_inI (by omega)) <| all_cons (ob_no c1) all_nil) Tryd.func26 w vals hG hv fun t ht => by cases ht
theorem fe_yes (i : Im) (a : Int) (hs : smIm2 i) (ha : isI a) (w : World) (hG : GlobOk decGl w) (vals : List Value) (hv : ArgsOk w [imX false i, .inl (.int .i64 a)] vals) (hc : c32 i) (h : hasZ 65536 4 i.n a) : LRet Tryd.prog 26 vals false [.inl (.tuple #[inV (decodeZ (i.c (qZ 65536 4 a).toNat)), .bool true])] w := by
  obtain ⟨ha0, ha1⟩ := ha
  obtain ⟨c1, c2, c3⟩ := h
  have e2 := mZ_eq (b := 65536) (s := 4) (a := a) (by omega)
  have e1 := qZ_eq (b := 65536) (s := 4) (a := a) (by decide) (by decide) (by omega) ⟨ha0, ha1⟩
  have hlt : (qZ 65536 4 a).toNat < i.n := by rw [e1]; omega
  exact fn_ok envF8p_ok (fe4 i a) (all_cons (by unfold pre; exact w32B_of (hc _ hlt)) <| all_cons (ob_lt hlt) <| all_cons (ob_idx (by rw [e1]; omega)) <| all_cons rfl <| all_cons (ob_no (by rw [e1]; omega)) <| all_cons (bneF (by rw [e2]; exact c2)) <| all_cons (ob_inI (by omega)) <| all_cons (ob_no (by omega)) all_nil) Tryd.func26 w vals hG hv fun t ht => by cases ht
end Go.Proofs.YtiajbijbhhpllaaDoor
namespace Go.Proofs.YtiajbijbhhpllaaDoor
open Go.RowKit Sim S2
theorem feZ_ex : ∃ h : Im → Int → In × Bool, ∀ i a, (hasZ 65536 4 i.n a → h i a = (decodeZ (i.c (qZ 65536 4 a).toNat), true)) ∧ (¬ hasZ 65536 4 i.n a → h i a = (⟨0, 0, 0, 0, 0, false, false⟩, false)) := by
  classical
  exact ⟨fun i a => if hasZ 65536 4 i.n a then (decodeZ (i.c (qZ 65536 4 a).toNat), true) else (⟨0, 0, 0, 0, 0, false, false⟩, false), fun i a => ⟨fun h => if_pos h, fun h => if_neg h⟩⟩
noncomputable def feZ : Im → Int → In × Bool := Classical.choose feZ_ex
theorem feZ_yes {i : Im} {a : Int} (h : hasZ 65536 4 i.n a) : feZ i a = (decodeZ (i.c (qZ 65536 4 a).toNat), true) := (Classical.choose_spec feZ_ex i a).1 h
theorem feZ_no {i : Im} {a : Int} (h : ¬ hasZ 65536 4 i.n a) : feZ i a = (⟨0, 0, 0, 0, 0, false, false⟩, false) := (Classical.choose_spec feZ_ex i a).2 h
def feOk (i : Im) (a : Int) (x : In) (ok : Bool) : Prop := smIm2 i ∧ isI a ∧ c32 i ∧ feZ i a = (x, ok)
theorem fe_any (i : Im) (a : Int) (x : In) (ok : Bool) (h : feOk i a x ok) (w : World) (hG : GlobOk decGl w) (vals : List Value) (hv : ArgsOk w [imX false i, .inl (.int .i64 a)] vals) : LRet Tryd.prog 26 vals false [.inl (.tuple #[inV x, .bool ok])] w := by
  obtain ⟨h1, h2, h3, h4⟩ := h
  by_cases hz : hasZ 65536 4 i.n a
  · rw [feZ_yes hz] at h4; cases h4
    exact fe_yes i a h1 h2 w hG vals hv h3 hz
  · rw [feZ_no hz] at h4; cases h4
    exact fe_no i a h1 h2 w hG vals hv hz
noncomputable def lfeA (i : Im) (x : In) (ok : Bool) : LTab := lrow 26 fun args => match args with
  | [.st cs, .inl (.int .i64 a)] => some (false, [.inl (.tuple #[inV x, .bool ok])], pre (propB (isIm i cs ∧ feOk i a x ok)))
  | _ => none
theorem lfeA_ok (i : Im) (x : In) (ok : Bool) : LTabOk Tryd.prog decGl (lfeA i x ok) := .row fun args tup res h w vals hG ha => by
  split at h
  · simp only [Option.some.injEq, Prod.mk.injEq] at h
    obtain ⟨rfl, rfl, hp⟩ := h
    obtain ⟨h1, h2⟩ := propB_ok.mp hp
    obtain ⟨v, vs, rfl, g1, g2⟩ := isIm_ok h1 ha
    exact fe_any i _ x ok h2 w hG (v :: vs) ⟨g1.1, g2⟩
  · cases h
noncomputable def tFp19 : Tab := orT tAccess <| orT tWide tBranch
theorem tFp19_ok {gl : Gl} : TabOk Tryd.prog gl tFp19 := tAccess_ok.or <| tWide_ok.or tBranch_ok
end Go.Proofs.YtiajbijbhhpllaaDoor
