/- What the tied table of math/bits gives the walks. -/
import Derived.Test.YtpmjfpdogbcigaaDoorTz09
import Derived.Test.YtpmjfpdogbcigaaDoorLaidKit
namespace Go.Proofs.YtpmjfpdogbcigaaDoor
open Sim Go.ChangeShapes Go.WideShapes Go.ChangeAt Go.RowKit
def tab9 : List (Nat × List Value) := [(0, tzL.map (Value.int .u8))]
theorem gl9_mem (g : Nat) (cs : List Value) (h : gl9 g = some cs) : (g, cs) ∈ tab9 := by
  unfold gl9 at h
  cases hb : Nat.beq g 0
  · rw [hb] at h; cases h
  · rw [hb] at h
    simp only [cond_true, Option.some.injEq] at h
    subst h
    rw [Nat.eq_of_beq_eq_true hb]
    exact List.mem_cons_self
theorem tz_of_laid {W : World} (h : laidMetH Tryd.prog [("math/bits.deBruijn64tab", Rows.laid_math_bits_deBruijn64tab)] W) : GlobOk gl9 W :=
  globs_of_laid (k := 5) (tab := tab9) (by kernel_rfl) (by kernel_rfl) gl9_mem h
end Go.Proofs.YtpmjfpdogbcigaaDoor
