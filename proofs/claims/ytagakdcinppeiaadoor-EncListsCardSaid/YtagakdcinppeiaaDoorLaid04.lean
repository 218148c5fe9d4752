/- What the tied tables of words and fields give the walks. -/
import Derived.Test.YtagakdcinppeiaaDoorEnc
import Derived.Test.YtagakdcinppeiaaDoorLaidKit
namespace Go.Proofs.YtagakdcinppeiaaDoor
open Sim Go.ChangeShapes Go.WideShapes Go.ChangeAt Go.RowKit

def wordCells : List Value := (wordL.take 77).map fun x => .int .u32 x
def fieldCells : List Value := fieldL.map fun x => .int .i64 x
theorem enc_of_laid {W : World} (h : laidMetH Tryd.prog [("spinnaker/enc.words", Rows.laid_spinnaker_enc_words), ("spinnaker/enc.fields", Rows.laid_spinnaker_enc_fields)] W) : GlobOk encGl W := by
  rw [MakeChecks.laidMetH_plain _ _ _ (by kernel_rfl)] at h
  obtain ⟨ps, ⟨g0, t0, cs0, f0, p0, q0, hg0, ht0, hv0, hd0, ⟨g1, t1, cs1, f1, p1, q1, hg1, ht1, hv1, hd1, _⟩, _⟩, _, _⟩ := h
  have h0 := laid_cells (k := 5) (r := wordCells) (show Tryd.prog.globalNamed "spinnaker/enc.words" = some 1 by kernel_rfl) (t := 69) (by kernel_rfl) (by kernel_rfl) hg0 ht0 hv0 hd0
  have h1 := laid_cells (k := 5) (r := fieldCells) (show Tryd.prog.globalNamed "spinnaker/enc.fields" = some 0 by kernel_rfl) (t := 66) (by kernel_rfl) (by kernel_rfl) hg1 ht1 hv1 hd1
  intro g cs hg i v hv
  unfold encGl at hg
  cases hb : Nat.beq g 1
  · rw [hb] at hg
    simp only [cond_false] at hg
    cases hb2 : Nat.beq g 0
    · rw [hb2] at hg; cases hg
    · rw [hb2] at hg
      simp only [cond_true, Option.some.injEq] at hg
      subst hg
      rw [Nat.eq_of_beq_eq_true hb2, h1 i]; exact hv
  · rw [hb] at hg
    simp only [cond_true, Option.some.injEq] at hg
    subst hg
    rw [Nat.eq_of_beq_eq_true hb, h0 i]; exact hv
end Go.Proofs.YtagakdcinppeiaaDoor
