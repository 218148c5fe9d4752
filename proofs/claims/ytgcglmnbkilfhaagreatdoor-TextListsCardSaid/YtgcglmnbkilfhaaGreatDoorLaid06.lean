/- What the listed variables give the walks of layer 6: three tables and strconv's two errors. -/
import Derived.Test.YtgcglmnbkilfhaaGreatDoorPars06
import Derived.Test.YtgcglmnbkilfhaaGreatDoorListing06
import Derived.Test.YtgcglmnbkilfhaaGreatDoorLaidKit
import Derived.Test.YtgcglmnbkilfhaaGreatDoorRows
import Derived.LaidSub
import Derived.Stop.LaidErr
import Derived.Stop.Joined
namespace Go.Proofs.YtgcglmnbkilfhaaGreatDoor
open Sim S2 Go.ChangeShapes Go.WideShapes Go.ChangeAt Go.RowKit
set_option linter.unusedVariables false

def laid6 : List (String × DataW Unit) := [("math/bits.deBruijn32tab", Rows.laid_math_bits_deBruijn32tab), ("math/bits.deBruijn64tab", Rows.laid_math_bits_deBruijn64tab), ("internal/strconv.uint64pow10", Rows.laid_internal_strconv_uint64pow10), ("spinnaker/reg.abi", Rows.laid_spinnaker_reg_abi), ("spinnaker/isa.names", Rows.laid_spinnaker_isa_names), ("strconv.ErrRange", Rows.laid_strconv_ErrRange), ("strconv.ErrSyntax", Rows.laid_strconv_ErrSyntax)]
def keep6 : String × DataW Unit → Bool := fun x => match x.2 with
  | .iface _ _ => false
  | _ => true
def data6 : List (String × DataW Unit) := [("math/bits.deBruijn32tab", Rows.laid_math_bits_deBruijn32tab), ("math/bits.deBruijn64tab", Rows.laid_math_bits_deBruijn64tab), ("internal/strconv.uint64pow10", Rows.laid_internal_strconv_uint64pow10), ("spinnaker/reg.abi", Rows.laid_spinnaker_reg_abi), ("spinnaker/isa.names", Rows.laid_spinnaker_isa_names)]
theorem keep6_eq : laid6.filter keep6 = data6 := rfl
/-- The three tables alone. -/
def gl6T : Nat → Option (List Value) := fun g => bif Nat.beq g 0 then some (opL.map Value.string) else bif Nat.beq g 2 then some abiC
  else bif Nat.beq g 5 then some powC else none
def valsOf : DataW Unit → List Value
  | .agg ds => ds.map fun d => match d with
    | .lit (.int k x) => .int k x
    | _ => .bool false
  | _ => []
def tab6 : List (Nat × List Value) := [(6, valsOf Rows.laid_math_bits_deBruijn32tab), (7, valsOf Rows.laid_math_bits_deBruijn64tab), (5, powC), (2, abiC), (0, opL.map Value.string)]
theorem gl6T_mem (g : Nat) (cs : List Value) (h : gl6T g = some cs) : (g, cs) ∈ tab6 := by
  unfold gl6T at h
  unfold tab6
  cases h1 : Nat.beq g 0
  · rw [h1] at h
    cases h2 : Nat.beq g 2
    · rw [h2] at h
      cases h3 : Nat.beq g 5
      · rw [h3] at h; cases h
      · rw [h3] at h
        simp only [cond_true, cond_false, Option.some.injEq] at h
        rw [Nat.eq_of_beq_eq_true h3, ← h]; simp
    · rw [h2] at h
      simp only [cond_true, cond_false, Option.some.injEq] at h
      rw [Nat.eq_of_beq_eq_true h2, ← h]; simp
  · rw [h1] at h
    simp only [cond_true, Option.some.injEq] at h
    rw [Nat.eq_of_beq_eq_true h1, ← h]; simp
theorem tabs6_of {W : World} (h : laidMetH Tryz.prog laid6 W) : GlobOk gl6T W :=
  globs_of_laid (k := 5) (laid := data6) (tab := tab6) (by kernel_rfl) (by kernel_rfl) gl6T_mem (by have := h.filter keep6; rw [keep6_eq] at this; exact this)
theorem star6 : "*" ++ "errors.errorString" = "*errors.errorString" := by decide
theorem row6 (u : TypeId) (h : Tryz.prog.typeName? 3 u = some "*errors.errorString") : u = 125 :=
  typeName_ptr_named (nm := "errors.errorString") (by rw [star6]; kernel_rfl) (by kernel_rfl) (by decide) u (by rw [star6]; exact h)
theorem gS6 : Tryz.prog.globalNamed "strconv.ErrSyntax" = some 3 := by kernel_rfl
theorem gR6 : Tryz.prog.globalNamed "strconv.ErrRange" = some 4 := by kernel_rfl
theorem gST6 : (Tryz.prog.globals[3]?).map (·.type) = some 41 := by kernel_rfl
theorem gRT6 : (Tryz.prog.globals[4]?).map (·.type) = some 41 := by kernel_rfl
theorem cE6 : Tryz.prog.cellsOf 127 = 1 := by kernel_rfl
theorem cs6 : Tryz.prog.cellsOf 9 = 1 := by kernel_rfl
/-- What layer 6 finds in the world. -/
theorem gl6_of_laid {W : World} (h : laidMetH Tryz.prog laid6 W) : ∃ es er, isErr es ∧ isErr er ∧ GlobOk (gl6 es er) W := by
  have hT := tabs6_of h
  have hL : laidMet Tryz.prog laid6 W := by rw [← MakeChecks.laidMetH_plain _ _ _ (by kernel_rfl)]; exact h
  have hS : laidMet Tryz.prog [("strconv.ErrRange", Rows.laid_strconv_ErrRange), ("strconv.ErrSyntax", Rows.laid_strconv_ErrSyntax)] W := hL.tail.tail.tail.tail.tail
  obtain ⟨a0, s0, hv0, _, _, _⟩ := laid_sentinel hS gR6 gRT6 Tryz.underlying41 row6 Tryz.underlying125 Tryz.underlying127 rfl rfl Tryz.underlying9 cE6 cs6
  obtain ⟨a1, s1, hv1, _, _, _⟩ := laid_sentinel hS.tail gS6 gST6 Tryz.underlying41 row6 Tryz.underlying125 Tryz.underlying127 rfl rfl Tryz.underlying9 cE6 cs6
  refine ⟨.iface 125 (.pointer (some a1)), .iface 125 (.pointer (some a0)), .inr ⟨_, _, rfl⟩, .inr ⟨_, _, rfl⟩, ?_⟩
  have one : ∀ (n : String) (g : Nat) (x : Value), Tryz.prog.globalNamed n = some g → W.var? Tryz.prog n = some #[x] → (∀ (i : Nat) v, [x][i]? = some v → W.cell? ⟨g, i, none⟩ = some v) ∧ (exactL [x] = true → ∀ i : Nat, W.cell? ⟨g, i, none⟩ = [x][i]?) := fun n g x hg hv => by
    have h : ∀ i, W.cell? ⟨g, i, none⟩ = [x][i]? := fun i => by rw [World.var?_cell hg hv i]; simp
    exact ⟨fun i v hi => by rw [h i]; exact hi, fun _ => h⟩
  intro g cs hg
  cases hk : gl6T g with
  | some c =>
    have e : gl6 (.iface 125 (.pointer (some a1))) (.iface 125 (.pointer (some a0))) g = some c := by
      unfold gl6T at hk
      unfold gl6
      cases h1 : Nat.beq g 0
      · rw [h1] at hk
        cases h2 : Nat.beq g 2
        · rw [h2] at hk
          cases h3 : Nat.beq g 5
          · rw [h3] at hk; cases hk
          · rw [h3] at hk; exact hk
        · rw [h2] at hk; exact hk
      · rw [h1] at hk; exact hk
    rw [e] at hg
    obtain rfl := Option.some.inj hg
    exact hT g c hk
  | none =>
    unfold gl6T at hk
    unfold gl6 at hg
    cases h1 : Nat.beq g 0
    · rw [h1] at hk hg
      cases h2 : Nat.beq g 2
      · rw [h2] at hk hg
        cases h3 : Nat.beq g 5
        · rw [h3] at hk hg
          cases h4 : Nat.beq g 3
          · rw [h4] at hg
            cases h5 : Nat.beq g 4
            · rw [h5] at hg; cases hg
            · rw [h5] at hg
              simp only [cond_true, cond_false, Option.some.injEq] at hg
              subst hg
              rw [Nat.eq_of_beq_eq_true h5]
              exact one _ _ _ gR6 hv0
          · rw [h4] at hg
            simp only [cond_true, cond_false, Option.some.injEq] at hg
            subst hg
            rw [Nat.eq_of_beq_eq_true h4]
            exact one _ _ _ gS6 hv1
        · rw [h3] at hk; cases hk
      · rw [h2] at hk; cases hk
    · rw [h1] at hk; cases hk
/-! ### The four laws, where the listed variables hold what they should -/
theorem writes_walk (i : In) (w : World) (h : laidMetH Tryz.prog laid6 w) {p : Prop} (_ : p) : Ret Tryz.prog 3 #[inV i] (.bool true) w := by
  obtain ⟨es, er, hes, her, hG⟩ := gl6_of_laid h
  exact textWrites_law tText_ok (pParse_ok hes her) i w hG
theorem parses_walk (s : ByteArray) (w : World) (h : laidMetH Tryz.prog laid6 w) {p : Prop} (_ : p) : Ret Tryz.prog 4 #[.string s] (.bool true) w := by
  obtain ⟨es, er, hes, her, hG⟩ := gl6_of_laid h
  exact textParses_law tText_ok (pParse_ok hes her) s w hG
theorem apart_walk (i k : In) (w : World) (h : laidMetH Tryz.prog laid6 w) {p q : Prop} (_ : p) (_ : q) : Ret Tryz.prog 5 #[inV i, inV k] (.bool true) w := by
  obtain ⟨es, er, hes, her, hG⟩ := gl6_of_laid h
  exact textApart_law tText_ok (pParse_ok hes her) i k w hG
theorem lists_walk (n : Nat) (f : Nat → In) (w : World) (vals : List Value) (h : laidMetH Tryz.prog laid6 w) (ha : ArgsOk w [.inr (insE n f)] vals) : Calls Tryz.prog 6 vals.toArray w fun e w' => e = .returned (.bool true) ∧ Below w.heap.size w w' := by
  obtain ⟨es, er, hes, her, hG⟩ := gl6_of_laid h
  exact (textLists_law tText_ok (pParse_ok hes her) n f (lListing_ok tText_ok n f) w vals hG ha).plain
end Go.Proofs.YtgcglmnbkilfhaaGreatDoor
