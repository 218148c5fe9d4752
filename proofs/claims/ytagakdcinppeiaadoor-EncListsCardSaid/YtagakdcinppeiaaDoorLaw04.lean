/- The laws of layer 4 on one and two instructions, by the evaluator. -/
import Derived.Test.YtagakdcinppeiaaDoorRef04
import Derived.Test.YtagakdcinppeiaaDoorEnc
import Derived.Test.YtagakdcinppeiaaDoorOpen03
namespace Go.Proofs.YtagakdcinppeiaaDoor
open Go.RowKit Sim
set_option linter.unusedVariables false
set_option linter.unusedSimpArgs false

theorem awake04 (w : World) (hG : GlobOk encGl w) : Ret Tryd.prog 8 #[] (.bool true) w :=
  ret tEncode_ok (fuel := 1000) [] [] (v := .bool true) [] (by kernel_rfl) (fun _ h => by cases h) w hG
def tAwake04 : Tab := row 8 dec0 fun _ => .bool true
theorem tAwake04_ok : TabOk Tryd.prog encGl tAwake04 := tab0 fun w hG => awake04 w hG
noncomputable def tLaw04 : Tab := orT tEncode <| orT tRefMay tAwake04
theorem tLaw04_ok : TabOk Tryd.prog encGl tLaw04 := tEncode_ok.or (tRefMay_ok.or tAwake04_ok)
theorem encWords_walk (i : In) (w : World) (hG : GlobOk encGl w) : Ret Tryd.prog 3 #[inV i] (.bool true) w := by
  cases hm : mayB i
  · exact retP tLaw04_ok pRefEncode_ok (fuel := 1000) OIn [true, true, true] (v := .bool true) [(errE i == 1, true), (wordE i == 0, true), (!mayB i, true)] (by kernel_rfl) (by simp [hm, wordE, errE]) w hG
  · exact retP tLaw04_ok pRefEncode_ok (fuel := 1000) OIn [false, true, true] (v := .bool true) [(errE i == 0, true), (wordE i == encZ i, true), (pre (mayB i), true), (!mayB i, false)] (by kernel_rfl) (by simp [hm, pre, wordE, errE]) w hG
theorem encWords_law (i : In) (w : World) (hG : GlobOk encGl w) (_ : wfIn i) : Calls Tryd.prog 3 #[inV i] w (Holds w) := encWords_walk i w hG
/-- Equality of instructions, as the code has it. -/
def eqIn (i k : In) : Bool := i.op == k.op && (i.rd == k.rd && (i.a == k.a && (i.b == k.b && (i.imm == k.imm && (i.aq == k.aq && (i.rl == k.rl && true))))))
theorem eqIn_iff (i k : In) : eqIn i k = true ↔ i = k := by
  obtain ⟨a, b, c, d, e, f, g⟩ := i
  obtain ⟨a', b', c', d', e', f', g'⟩ := k
  simp [eqIn]
theorem encApart_walk (i k : In) (w : World) (hG : GlobOk encGl w) : Ret Tryd.prog 4 #[inV i, inV k] (.bool true) w := by
  cases hm : mayB i
  · exact ret tLaw04_ok (fuel := 1000) (OIn ++ OIn) [true] (v := .bool true) [(!mayB i, true)] (by kernel_rfl) (by simp [hm]) w hG
  · cases hk : mayB k
    · exact ret tLaw04_ok (fuel := 1000) (OIn ++ OIn) [false, true] (v := .bool true) [(!mayB k, true), (!mayB i, false)] (by kernel_rfl) (by simp [hm, hk]) w hG
    · have e : (wordE i == wordE k) = eqIn i k := by
        unfold wordE
        rw [hm, hk]
        simp only [cond_true]
        rw [Bool.eq_iff_iff, beq_iff_eq, eqIn_iff]
        exact ⟨fun h => enc_inj hm hk h, fun h => by rw [h]⟩
      exact ret tLaw04_ok (fuel := 1000) (OIn ++ OIn) [false, false, true, true, true] (v := .bool true) [((wordE i == wordE k) == eqIn i k, true), (errE k == 0, true), (errE i == 0, true), (!mayB k, false), (!mayB i, false)] (by kernel_rfl) (by simp [hm, hk, errE, e]) w hG
theorem encApart_law (i k : In) (w : World) (hG : GlobOk encGl w) (_ : wfIn i) (_ : wfIn k) : Calls Tryd.prog 4 #[inV i, inV k] w (Holds w) := encApart_walk i k w hG
end Go.Proofs.YtagakdcinppeiaaDoor
