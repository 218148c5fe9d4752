/- What the tied tables of words, fields and operations give the walks. -/
import Derived.Test.YtimgongaenpgkaaDoorDec
import Derived.Test.YtimgongaenpgkaaDoorLaidKit
namespace Go.Proofs.YtimgongaenpgkaaDoor
open Sim Go.ChangeShapes Go.WideShapes Go.ChangeAt Go.RowKit

def wordCells : List Value := (wordL.take 77).map fun x => .int .u32 x
def fieldCells : List Value := fieldL.map fun x => .int .i64 x
def tab5 : List (Nat × List Value) := (12, wordCells) :: (11, fieldCells) :: tabGl.map fun p => (p.1, p.2.map fun x => .int .i64 x)
theorem findG_mem {g : Nat} {cs : List Value} : ∀ (l : List (Nat × List Int)), findG l g = some cs → (g, cs) ∈ l.map fun p => (p.1, p.2.map fun x => Value.int .i64 x)
  | [], h => by cases h
  | (k, x) :: r, h => by
    unfold findG at h
    cases hb : Nat.beq g k
    · rw [hb] at h
      exact List.mem_cons_of_mem _ (findG_mem r h)
    · rw [hb] at h
      simp only [cond_true, Option.some.injEq] at h
      subst h
      rw [Nat.eq_of_beq_eq_true hb]; exact List.mem_cons_self
theorem decGl_mem (g : Nat) (cs : List Value) (h : decGl g = some cs) : (g, cs) ∈ tab5 := by
  unfold decGl at h
  split at h
  · rename_i cs' he
    simp only [Option.some.injEq] at h
    subst h
    unfold encGl at he
    cases hb : Nat.beq g 12
    · rw [hb] at he
      simp only [cond_false] at he
      cases hb2 : Nat.beq g 11
      · rw [hb2] at he; cases he
      · rw [hb2] at he
        simp only [cond_true, Option.some.injEq] at he
        subst he
        rw [Nat.eq_of_beq_eq_true hb2]
        exact List.mem_cons_of_mem _ List.mem_cons_self
    · rw [hb] at he
      simp only [cond_true, Option.some.injEq] at he
      subst he
      rw [Nat.eq_of_beq_eq_true hb]
      exact List.mem_cons_self
  · exact List.mem_cons_of_mem _ (List.mem_cons_of_mem _ (findG_mem _ h))
theorem dec_of_laid {W : World} (h : laidMetH Tryd.prog [("spinnaker/enc.words", Rows.laid_spinnaker_enc_words), ("spinnaker/enc.fields", Rows.laid_spinnaker_enc_fields), ("spinnaker/dec.branches", Rows.laid_spinnaker_dec_branches), ("spinnaker/dec.loads", Rows.laid_spinnaker_dec_loads), ("spinnaker/dec.stores", Rows.laid_spinnaker_dec_stores), ("spinnaker/dec.immediates", Rows.laid_spinnaker_dec_immediates), ("spinnaker/dec.sums", Rows.laid_spinnaker_dec_sums), ("spinnaker/dec.others", Rows.laid_spinnaker_dec_others), ("spinnaker/dec.products", Rows.laid_spinnaker_dec_products), ("spinnaker/dec.immediatesW", Rows.laid_spinnaker_dec_immediatesW), ("spinnaker/dec.sumsW", Rows.laid_spinnaker_dec_sumsW), ("spinnaker/dec.othersW", Rows.laid_spinnaker_dec_othersW), ("spinnaker/dec.productsW", Rows.laid_spinnaker_dec_productsW)] W) : GlobOk decGl W :=
  globs_of_laid (k := 5) (tab := tab5) (by kernel_rfl) (by kernel_rfl) decGl_mem h
end Go.Proofs.YtimgongaenpgkaaDoor
