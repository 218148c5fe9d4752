/- Contracts of the answers by definition for layer 8: two images that are the same. -/
import Derived.Test.YtimgongaenpgkaaDoorRef08
import Derived.Test.YtimgongaenpgkaaDoorRef02
namespace Go.Proofs.YtimgongaenpgkaaDoor
open Go.RowKit Sim S2
set_option linter.unusedVariables false
set_option linter.unusedSimpArgs false

/-! ### The rows -/
/-- Cells that read as an image. -/
def isIm (i : Im) (cs : List (Sum Value LE)) : Prop := ∃ a b c, cs = [.inr a, .inr b, .inr c] ∧ { a with own := false } = w32L false i.n i.c ∧ { b with own := false } = intL false i.m i.d ∧ { c with own := false } = intL false i.h i.e
def smallIm (i : Im) : Prop := i.n ≤ 1000000000 ∧ i.m ≤ 1000000000 ∧ i.h ≤ 1000000000
theorem inB_own {B : Nat} {w : World} {e : LE} {v : Value} {e' : LE} (h : InB B w e v) (he : { e with own := false } = e') : InB B w e' v := by
  subst he
  exact h
theorem isIm_args {i : Im} {cs : List (Sum Value LE)} (h : isIm i cs) {w : World} {us : List Value} (hc : CellsOk w cs us) : ∃ u0 u1 u2, us = [u0, u1, u2] ∧ InB w.heap.size w (w32L false i.n i.c) u0 ∧ InB w.heap.size w (intL false i.m i.d) u1 ∧ InB w.heap.size w (intL false i.h i.e) u2 := by
  obtain ⟨a, b, c, rfl, h0, h1, h2⟩ := h
  match us, hc with
  | [u0, u1, u2], hc => exact ⟨u0, u1, u2, rfl, inB_own hc.1 h0, inB_own hc.2.1 h1, inB_own hc.2.2.1 h2⟩
theorem isIm_ok {i : Im} {cs : List (Sum Value LE)} (h : isIm i cs) {w : World} {r : List XV} {vals : List Value} (ha : ArgsOk w (.st cs :: r) vals) : ∃ v vs, vals = v :: vs ∧ ArgsOk w [imX false i] [v] ∧ ArgsOk w r vs := by
  cases vals with
  | nil => exact ha.elim
  | cons v vs =>
    obtain ⟨⟨us, rfl, hc⟩, hr⟩ := ha
    obtain ⟨u0, u1, u2, rfl, g0, g1, g2⟩ := isIm_args h hc
    exact ⟨_, vs, rfl, ⟨⟨[u0, u1, u2], rfl, g0, g1, g2, trivial⟩, trivial⟩, hr⟩
theorem args_nil {w : World} {vs : List Value} (h : ArgsOk w [] vs) : vs = [] := by cases vs <;> first | rfl | exact h.elim
end Go.Proofs.YtimgongaenpgkaaDoor
