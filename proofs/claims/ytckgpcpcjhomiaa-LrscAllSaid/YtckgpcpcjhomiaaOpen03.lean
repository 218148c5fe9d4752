/- Openers for arguments of layer 3 on. -/
import Derived.Test.YtckgpcpcjhomiaaOpen2
import Derived.Test.YtckgpcpcjhomiaaPlain03
namespace Go.Proofs.Ytckgpcpcjhomiaa
open Go.RowKit

/-- Every field of the instruction is a number of its kind. -/
def wfIn (i : In) : Prop := (Lit.int .i64 i.op).wf = true ∧ (Lit.int .i64 i.rd).wf = true ∧ (Lit.int .i64 i.a).wf = true ∧ (Lit.int .i64 i.b).wf = true ∧ (Lit.int .i64 i.imm).wf = true
def inK : List FK := [some (some .i64), some (some .i64), some (some .i64), some (some .i64), some (some .i64), none, none]
theorem in_of {v : Value} (h : ∃ cs : List Value, v = .agg cs.toArray ∧ FV inK cs) : ∃ i : In, v = inV i ∧ wfIn i := by
  obtain ⟨cs, hv, h⟩ := h
  obtain ⟨_, _, rfl, ⟨op, rfl, w0⟩, h1⟩ := fv_cons h
  obtain ⟨_, _, rfl, ⟨rd, rfl, w1⟩, h2⟩ := fv_cons h1
  obtain ⟨_, _, rfl, ⟨a, rfl, w2⟩, h3⟩ := fv_cons h2
  obtain ⟨_, _, rfl, ⟨b, rfl, w3⟩, h4⟩ := fv_cons h3
  obtain ⟨_, _, rfl, ⟨imm, rfl, w4⟩, h5⟩ := fv_cons h4
  obtain ⟨_, _, rfl, ⟨aq, rfl⟩, h6⟩ := fv_cons h5
  obtain ⟨_, _, rfl, ⟨rl, rfl⟩, h7⟩ := fv_cons h6
  obtain rfl := fv_nil h7
  exact ⟨⟨op, rd, a, b, imm, aq, rl⟩, hv, w0, w1, w2, w3, w4⟩
end Go.Proofs.Ytckgpcpcjhomiaa
