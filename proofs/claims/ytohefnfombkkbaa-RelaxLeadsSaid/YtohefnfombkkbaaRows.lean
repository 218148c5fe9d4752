/-
  No cell of these rows narrows 'for every input' (looked for: loops, veiled, ifaces, maps, wideKeys, modest, calm, conditions, laid).
  DERIVED. THE GIVEN ROWS OF THIS SEAT. 3 by the template 'for every input the law returns true; each argument reads behind the call as it read before'; 0 by the template 'total and deterministic' (their statements: YtohefnfombkkbaaTotals.lean).
  GIVEN WITH THE SEED: the statements are not yours to turn. If you find one false, say at which input.
  Laid BY PROGRAM, IN A SANDBOX (cutbox-rows.mjs): the forced cells as the released guide's own fill.sh prints them over the translation e336b9d999ebcf2a… (all of the seat's roots in one cut). By AI agents, Wed Nov 11 2026. No macro, syntax, notation, axiom, sorry.
-/
import Derived.Test.YtohefnfombkkbaaChecked
import GoSem.Claim
import GoSem.ClaimJoined
import GoSem.ClaimMapViews
import Derived.JoinedTies
import Derived.KernelRfl
namespace Go.Proofs.Ytohefnfombkkbaa
/- THE CELL 'sum', in the pinned program and in every row, IS THE sha256 OF THE DUMP (.gsa) THAT YtohefnfombkkbaaProg.lean LOADS. Nothing in Lean hashes anything: it is a label: what it is worth is what the hold of that sum in a sandbox is worth. -/
noncomputable def Try.pinned : Pinned := { name := "ytohefnfombkkbaa", sum := "e336b9d999ebcf2ab220d5d6734d2880cb83c0567240a0c6d7d0a405f0fae70b", checked := Try.checked }
namespace Rows
def none {H : Type} : Left H := { results := [], args := [] }

/-- 'spinnakerlaw10.RelaxLays': WHATEVER THE INPUT: true; the input reads as it did. -/
def relaxLaysSpec : ChangeSpec := { name := "relaxLays", fn := fun _ => fun
  | [d1, d2, d3] => { results := [.lit (.bool true)], args := [d1, d2, d3] }
  | _ => none }
def relaxLaysRow : OpenClaim := { program := "ytohefnfombkkbaa", sum := "e336b9d999ebcf2ab220d5d6734d2880cb83c0567240a0c6d7d0a405f0fae70b", func := "spinnaker/spinnakerlaw10.RelaxLays", spec := "relaxLays", apart := false }
def RelaxLaysSaid : Prop := relaxLaysRow.holds Try.pinned (OpenSpec.ofChange relaxLaysSpec)

/-- ITS FALSE NEIGHBOUR: 'it returns false'. Refute it at one input. -/
def relaxLaysWrong : ChangeSpec := { name := "relaxLays", fn := fun _ => fun
  | [d1, d2, d3] => { results := [.lit (.bool false)], args := [d1, d2, d3] }
  | _ => none }
def RelaxLaysWrongFalsely : Prop := relaxLaysRow.holds Try.pinned (OpenSpec.ofChange relaxLaysWrong)

/-- 'spinnakerlaw10.RelaxLong': WHATEVER THE INPUT: true; the input reads as it did. -/
def relaxLongSpec : ChangeSpec := { name := "relaxLong", fn := fun _ => fun
  | [d1, d2, d3] => { results := [.lit (.bool true)], args := [d1, d2, d3] }
  | _ => none }
def relaxLongRow : OpenClaim := { program := "ytohefnfombkkbaa", sum := "e336b9d999ebcf2ab220d5d6734d2880cb83c0567240a0c6d7d0a405f0fae70b", func := "spinnaker/spinnakerlaw10.RelaxLong", spec := "relaxLong", apart := false }
def RelaxLongSaid : Prop := relaxLongRow.holds Try.pinned (OpenSpec.ofChange relaxLongSpec)

/-- ITS FALSE NEIGHBOUR: 'it returns false'. Refute it at one input. -/
def relaxLongWrong : ChangeSpec := { name := "relaxLong", fn := fun _ => fun
  | [d1, d2, d3] => { results := [.lit (.bool false)], args := [d1, d2, d3] }
  | _ => none }
def RelaxLongWrongFalsely : Prop := relaxLongRow.holds Try.pinned (OpenSpec.ofChange relaxLongWrong)

/-- 'spinnakerlaw10.RelaxLeads': WHATEVER THE INPUT: true; the input reads as it did. -/
def relaxLeadsSpec : ChangeSpec := { name := "relaxLeads", fn := fun _ => fun
  | [d1, d2, d3] => { results := [.lit (.bool true)], args := [d1, d2, d3] }
  | _ => none }
def relaxLeadsRow : OpenClaim := { program := "ytohefnfombkkbaa", sum := "e336b9d999ebcf2ab220d5d6734d2880cb83c0567240a0c6d7d0a405f0fae70b", func := "spinnaker/spinnakerlaw10.RelaxLeads", spec := "relaxLeads", apart := false }
def RelaxLeadsSaid : Prop := relaxLeadsRow.holds Try.pinned (OpenSpec.ofChange relaxLeadsSpec)

/-- ITS FALSE NEIGHBOUR: 'it returns false'. Refute it at one input. -/
def relaxLeadsWrong : ChangeSpec := { name := "relaxLeads", fn := fun _ => fun
  | [d1, d2, d3] => { results := [.lit (.bool false)], args := [d1, d2, d3] }
  | _ => none }
def RelaxLeadsWrongFalsely : Prop := relaxLeadsRow.holds Try.pinned (OpenSpec.ofChange relaxLeadsWrong)

/- THE SECOND FORM. 'bulk': how many values and letters a reading holds, each counted each time it is reached (what is shared counts as often as it is met; a slice's spare places count too). A statement '..UptoSaid' is the law's where the arguments, and the package variables that the reading takes, are together of bulk at most 1048576: NARROWER than '..Said'. Prove '..Said' where nothing that the law and all that it calls make is longer than what came in: it says more and counts as full. Else prove '..UptoSaid'. A law counts once. -/
mutual
def uptoBulk {H : Type} : DataW H → Nat
  | .lit (.string bytes) => bytes.length + 1
  | .lit _ => 1
  | .nil => 1
  | .ptr d => uptoBulk d + 1
  | .slice elems spare => uptoBulkAll elems + uptoBulkAll spare + 1
  | .agg parts => uptoBulkAll parts + 1
  | .iface _ d => uptoBulk d + 1
  | .map entries => uptoBulkEntries entries + 1
  | .held _ => 1
def uptoBulkAll {H : Type} : List (DataW H) → Nat
  | [] => 0
  | d :: r => uptoBulk d + uptoBulkAll r
def uptoBulkEntries {H : Type} : List (Lit × DataW H) → Nat
  | [] => 0
  | x :: r => uptoBulkEntry x + uptoBulkEntries r
def uptoBulkEntry {H : Type} : Lit × DataW H → Nat
  | (.string bytes, d) => bytes.length + uptoBulk d + 1
  | (_, d) => uptoBulk d + 1
 end
def uptoSmall : (H : Type) → List (DataW H) → Bool := fun _ ds => decide (uptoBulkAll ds ≤ 1048576)
def OpenSpec.upto (s : _root_.Go.ChangeSpec) : _root_.Go.OpenSpec := { _root_.Go.OpenSpec.ofChange s with cond := some uptoSmall }

/-- 'spinnakerlaw10.RelaxLays', WHERE WHAT IT READS IS OF BULK AT MOST 1048576: true; the input reads as it did. -/
def relaxLaysUptoRow : OpenClaim := { program := "ytohefnfombkkbaa", sum := "e336b9d999ebcf2ab220d5d6734d2880cb83c0567240a0c6d7d0a405f0fae70b", func := "spinnaker/spinnakerlaw10.RelaxLays", spec := "relaxLays", apart := false, narrowed := true }
def RelaxLaysUptoSaid : Prop := relaxLaysUptoRow.holds Try.pinned (OpenSpec.upto relaxLaysSpec)

/-- 'spinnakerlaw10.RelaxLong', WHERE WHAT IT READS IS OF BULK AT MOST 1048576: true; the input reads as it did. -/
def relaxLongUptoRow : OpenClaim := { program := "ytohefnfombkkbaa", sum := "e336b9d999ebcf2ab220d5d6734d2880cb83c0567240a0c6d7d0a405f0fae70b", func := "spinnaker/spinnakerlaw10.RelaxLong", spec := "relaxLong", apart := false, narrowed := true }
def RelaxLongUptoSaid : Prop := relaxLongUptoRow.holds Try.pinned (OpenSpec.upto relaxLongSpec)

/-- 'spinnakerlaw10.RelaxLeads', WHERE WHAT IT READS IS OF BULK AT MOST 1048576: true; the input reads as it did. -/
def relaxLeadsUptoRow : OpenClaim := { program := "ytohefnfombkkbaa", sum := "e336b9d999ebcf2ab220d5d6734d2880cb83c0567240a0c6d7d0a405f0fae70b", func := "spinnaker/spinnakerlaw10.RelaxLeads", spec := "relaxLeads", apart := false, narrowed := true }
def RelaxLeadsUptoSaid : Prop := relaxLeadsUptoRow.holds Try.pinned (OpenSpec.upto relaxLeadsSpec)

end Rows
end Go.Proofs.Ytohefnfombkkbaa
