/-
  No cell of these rows narrows 'for every input' (looked for: loops, veiled, ifaces, maps, wideKeys, modest, calm, conditions, laid).
  DERIVED. THE GIVEN ROWS OF THIS SEAT. 4 by the template 'for every input the law returns true; each argument reads behind the call as it read before'; 0 by the template 'total and deterministic' (their statements: YtcofdcpadbpmnaaTotals.lean).
  GIVEN WITH THE SEED: the statements are not yours to turn. If you find one false, say at which input.
  Laid BY PROGRAM, IN A SANDBOX (cutbox-rows.mjs): the forced cells as the released guide's own fill.sh prints them over the translation 7e1847bb7c4b352a… (all of the seat's roots in one cut). By AI agents, Wed Nov 11 2026. No macro, syntax, notation, axiom, sorry.
-/
import Derived.Test.YtcofdcpadbpmnaaChecked
import GoSem.Claim
import GoSem.ClaimJoined
import GoSem.ClaimMapViews
import Derived.JoinedTies
import Derived.KernelRfl
namespace Go.Proofs.Ytcofdcpadbpmnaa
/- THE CELL 'sum', in the pinned program and in every row, IS THE sha256 OF THE DUMP (.gsa) THAT YtcofdcpadbpmnaaProg.lean LOADS. Nothing in Lean hashes anything: it is a label: what it is worth is what the hold of that sum in a sandbox is worth. -/
noncomputable def Try.pinned : Pinned := { name := "ytcofdcpadbpmnaa", sum := "7e1847bb7c4b352aaa6e19d3ae505aec68dad8946e9beb63dc93ba6de370df37", checked := Try.checked }
namespace Rows
def none {H : Type} : Left H := { results := [], args := [] }

/-- 'spinnakerlaw07.AluEvals': WHATEVER THE INPUT: true; the input reads as it did. -/
def aluEvalsSpec : ChangeSpec := { name := "aluEvals", fn := fun _ => fun
  | [d1, d2, d3] => { results := [.lit (.bool true)], args := [d1, d2, d3] }
  | _ => none }
def aluEvalsRow : OpenClaim := { program := "ytcofdcpadbpmnaa", sum := "7e1847bb7c4b352aaa6e19d3ae505aec68dad8946e9beb63dc93ba6de370df37", func := "spinnaker/spinnakerlaw07.AluEvals", spec := "aluEvals", unfollowed := true, recurses := true, apart := false }
def AluEvalsSaid : Prop := aluEvalsRow.holds Try.pinned (OpenSpec.ofChange aluEvalsSpec)

/-- ITS FALSE NEIGHBOUR: 'it returns false'. Refute it at one input. -/
def aluEvalsWrong : ChangeSpec := { name := "aluEvals", fn := fun _ => fun
  | [d1, d2, d3] => { results := [.lit (.bool false)], args := [d1, d2, d3] }
  | _ => none }
def AluEvalsWrongFalsely : Prop := aluEvalsRow.holds Try.pinned (OpenSpec.ofChange aluEvalsWrong)

/-- 'spinnakerlaw07.AluTaken': WHATEVER THE INPUT: true; the input reads as it did. -/
def aluTakenSpec : ChangeSpec := { name := "aluTaken", fn := fun _ => fun
  | [d1, d2, d3] => { results := [.lit (.bool true)], args := [d1, d2, d3] }
  | _ => none }
def aluTakenRow : OpenClaim := { program := "ytcofdcpadbpmnaa", sum := "7e1847bb7c4b352aaa6e19d3ae505aec68dad8946e9beb63dc93ba6de370df37", func := "spinnaker/spinnakerlaw07.AluTaken", spec := "aluTaken", unfollowed := true, recurses := true, apart := false }
def AluTakenSaid : Prop := aluTakenRow.holds Try.pinned (OpenSpec.ofChange aluTakenSpec)

/-- ITS FALSE NEIGHBOUR: 'it returns false'. Refute it at one input. -/
def aluTakenWrong : ChangeSpec := { name := "aluTaken", fn := fun _ => fun
  | [d1, d2, d3] => { results := [.lit (.bool false)], args := [d1, d2, d3] }
  | _ => none }
def AluTakenWrongFalsely : Prop := aluTakenRow.holds Try.pinned (OpenSpec.ofChange aluTakenWrong)

/-- 'spinnakerlaw07.AluAmo': WHATEVER THE INPUT: true; the input reads as it did. -/
def aluAmoSpec : ChangeSpec := { name := "aluAmo", fn := fun _ => fun
  | [d1, d2, d3] => { results := [.lit (.bool true)], args := [d1, d2, d3] }
  | _ => none }
def aluAmoRow : OpenClaim := { program := "ytcofdcpadbpmnaa", sum := "7e1847bb7c4b352aaa6e19d3ae505aec68dad8946e9beb63dc93ba6de370df37", func := "spinnaker/spinnakerlaw07.AluAmo", spec := "aluAmo", unfollowed := true, recurses := true, apart := false }
def AluAmoSaid : Prop := aluAmoRow.holds Try.pinned (OpenSpec.ofChange aluAmoSpec)

/-- ITS FALSE NEIGHBOUR: 'it returns false'. Refute it at one input. -/
def aluAmoWrong : ChangeSpec := { name := "aluAmo", fn := fun _ => fun
  | [d1, d2, d3] => { results := [.lit (.bool false)], args := [d1, d2, d3] }
  | _ => none }
def AluAmoWrongFalsely : Prop := aluAmoRow.holds Try.pinned (OpenSpec.ofChange aluAmoWrong)

/-- 'spinnakerlaw07.AluParts': WHATEVER THE INPUT: true; the input reads as it did. -/
def aluPartsSpec : ChangeSpec := { name := "aluParts", fn := fun _ => fun
  | [d1, d2] => { results := [.lit (.bool true)], args := [d1, d2] }
  | _ => none }
def aluPartsRow : OpenClaim := { program := "ytcofdcpadbpmnaa", sum := "7e1847bb7c4b352aaa6e19d3ae505aec68dad8946e9beb63dc93ba6de370df37", func := "spinnaker/spinnakerlaw07.AluParts", spec := "aluParts", unfollowed := true, recurses := true, apart := false }
def AluPartsSaid : Prop := aluPartsRow.holds Try.pinned (OpenSpec.ofChange aluPartsSpec)

/-- ITS FALSE NEIGHBOUR: 'it returns false'. Refute it at one input. -/
def aluPartsWrong : ChangeSpec := { name := "aluParts", fn := fun _ => fun
  | [d1, d2] => { results := [.lit (.bool false)], args := [d1, d2] }
  | _ => none }
def AluPartsWrongFalsely : Prop := aluPartsRow.holds Try.pinned (OpenSpec.ofChange aluPartsWrong)

/- THE SECOND FORM. 'bulk': how many values and letters a reading holds, each counted each time it is reached (what is shared counts as often as it is met; a slice's spare places count too). A statement '..UptoSaid' is the law's where the arguments, and the package variables that the reading takes, are together of bulk at most 1048576: NARROWER than '..Said'. Prove '..Said' where nothing that the law and all that it calls make is longer than what came in: it says more and counts as full. Else prove '..UptoSaid'. A law counts once. -/
mutual
def uptoBulk {H : Type} : DataW H → Nat
  | .lit (.string bytes) => bytes.length + 1
  | .lit _ => 1
  | .nil => 1
  | .ptr d => uptoBulk d + 1
  | .slice elems spare => uptoBulkAll elems + uptoBulkAll spare + 1
  | .agg parts => uptoBulkAll parts + 1
  | .iface _ d => uptoBulk d + 1
  | .map entries => uptoBulkEntries entries + 1
  | .held _ => 1
def uptoBulkAll {H : Type} : List (DataW H) → Nat
  | [] => 0
  | d :: r => uptoBulk d + uptoBulkAll r
def uptoBulkEntries {H : Type} : List (Lit × DataW H) → Nat
  | [] => 0
  | x :: r => uptoBulkEntry x + uptoBulkEntries r
def uptoBulkEntry {H : Type} : Lit × DataW H → Nat
  | (.string bytes, d) => bytes.length + uptoBulk d + 1
  | (_, d) => uptoBulk d + 1
 end
def uptoSmall : (H : Type) → List (DataW H) → Bool := fun _ ds => decide (uptoBulkAll ds ≤ 1048576)
def OpenSpec.upto (s : _root_.Go.ChangeSpec) : _root_.Go.OpenSpec := { _root_.Go.OpenSpec.ofChange s with cond := some uptoSmall }

/-- 'spinnakerlaw07.AluEvals', WHERE WHAT IT READS IS OF BULK AT MOST 1048576: true; the input reads as it did. -/
def aluEvalsUptoRow : OpenClaim := { program := "ytcofdcpadbpmnaa", sum := "7e1847bb7c4b352aaa6e19d3ae505aec68dad8946e9beb63dc93ba6de370df37", func := "spinnaker/spinnakerlaw07.AluEvals", spec := "aluEvals", unfollowed := true, recurses := true, apart := false, narrowed := true }
def AluEvalsUptoSaid : Prop := aluEvalsUptoRow.holds Try.pinned (OpenSpec.upto aluEvalsSpec)

/-- 'spinnakerlaw07.AluTaken', WHERE WHAT IT READS IS OF BULK AT MOST 1048576: true; the input reads as it did. -/
def aluTakenUptoRow : OpenClaim := { program := "ytcofdcpadbpmnaa", sum := "7e1847bb7c4b352aaa6e19d3ae505aec68dad8946e9beb63dc93ba6de370df37", func := "spinnaker/spinnakerlaw07.AluTaken", spec := "aluTaken", unfollowed := true, recurses := true, apart := false, narrowed := true }
def AluTakenUptoSaid : Prop := aluTakenUptoRow.holds Try.pinned (OpenSpec.upto aluTakenSpec)

/-- 'spinnakerlaw07.AluAmo', WHERE WHAT IT READS IS OF BULK AT MOST 1048576: true; the input reads as it did. -/
def aluAmoUptoRow : OpenClaim := { program := "ytcofdcpadbpmnaa", sum := "7e1847bb7c4b352aaa6e19d3ae505aec68dad8946e9beb63dc93ba6de370df37", func := "spinnaker/spinnakerlaw07.AluAmo", spec := "aluAmo", unfollowed := true, recurses := true, apart := false, narrowed := true }
def AluAmoUptoSaid : Prop := aluAmoUptoRow.holds Try.pinned (OpenSpec.upto aluAmoSpec)

/-- 'spinnakerlaw07.AluParts', WHERE WHAT IT READS IS OF BULK AT MOST 1048576: true; the input reads as it did. -/
def aluPartsUptoRow : OpenClaim := { program := "ytcofdcpadbpmnaa", sum := "7e1847bb7c4b352aaa6e19d3ae505aec68dad8946e9beb63dc93ba6de370df37", func := "spinnaker/spinnakerlaw07.AluParts", spec := "aluParts", unfollowed := true, recurses := true, apart := false, narrowed := true }
def AluPartsUptoSaid : Prop := aluPartsUptoRow.holds Try.pinned (OpenSpec.upto aluPartsSpec)

end Rows
end Go.Proofs.Ytcofdcpadbpmnaa
