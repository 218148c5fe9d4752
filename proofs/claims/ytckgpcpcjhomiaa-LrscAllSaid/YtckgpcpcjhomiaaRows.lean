/-
  No cell of these rows narrows 'for every input' (looked for: loops, veiled, ifaces, maps, wideKeys, modest, calm, conditions, laid).
  DERIVED. THE GIVEN ROWS OF THIS SEAT. 3 by the template 'for every input the law returns true; each argument reads behind the call as it read before'; 0 by the template 'total and deterministic' (their statements: YtckgpcpcjhomiaaTotals.lean).
  GIVEN WITH THE SEED: the statements are not yours to turn. If you find one false, say at which input.
  Laid BY PROGRAM, IN A SANDBOX (cutbox-rows.mjs): the forced cells as the released guide's own fill.sh prints them over the translation 19a472732d5a5ca5… (all of the seat's roots in one cut). By AI agents, Wed Nov 11 2026. No macro, syntax, notation, axiom, sorry.
-/
import Derived.Test.YtckgpcpcjhomiaaChecked
import GoSem.Claim
import GoSem.ClaimJoined
import GoSem.ClaimMapViews
import Derived.JoinedTies
import Derived.KernelRfl
namespace Go.Proofs.Ytckgpcpcjhomiaa
/- THE CELL 'sum', in the pinned program and in every row, IS THE sha256 OF THE DUMP (.gsa) THAT YtckgpcpcjhomiaaProg.lean LOADS. Nothing in Lean hashes anything: it is a label: what it is worth is what the hold of that sum in a sandbox is worth. -/
noncomputable def Try.pinned : Pinned := { name := "ytckgpcpcjhomiaa", sum := "19a472732d5a5ca53c43eebf08446e2292d1d36061c793f676a1bfc36bf9eb72", checked := Try.checked }
namespace Rows
def none {H : Type} : Left H := { results := [], args := [] }

/-- 'spinnakerlaw12.LrscLengths': WHATEVER THE INPUT: true; the input reads as it did. -/
def lrscLengthsSpec : ChangeSpec := { name := "lrscLengths", fn := fun _ => fun
  | [d1, d2] => { results := [.lit (.bool true)], args := [d1, d2] }
  | _ => none }
def lrscLengthsRow : OpenClaim := { program := "ytckgpcpcjhomiaa", sum := "19a472732d5a5ca53c43eebf08446e2292d1d36061c793f676a1bfc36bf9eb72", func := "spinnaker/spinnakerlaw12.LrscLengths", spec := "lrscLengths", unfollowed := true, recurses := true, apart := false }
def LrscLengthsSaid : Prop := lrscLengthsRow.holds Try.pinned (OpenSpec.ofChange lrscLengthsSpec)

/-- ITS FALSE NEIGHBOUR: 'it returns false'. Refute it at one input. -/
def lrscLengthsWrong : ChangeSpec := { name := "lrscLengths", fn := fun _ => fun
  | [d1, d2] => { results := [.lit (.bool false)], args := [d1, d2] }
  | _ => none }
def LrscLengthsWrongFalsely : Prop := lrscLengthsRow.holds Try.pinned (OpenSpec.ofChange lrscLengthsWrong)

/-- 'spinnakerlaw12.LrscAll': WHATEVER THE INPUT: true; the input reads as it did. -/
def lrscAllSpec : ChangeSpec := { name := "lrscAll", fn := fun _ => fun
  | [d] => { results := [.lit (.bool true)], args := [d] }
  | _ => none }
def lrscAllRow : OpenClaim := { program := "ytckgpcpcjhomiaa", sum := "19a472732d5a5ca53c43eebf08446e2292d1d36061c793f676a1bfc36bf9eb72", func := "spinnaker/spinnakerlaw12.LrscAll", spec := "lrscAll", unfollowed := true, recurses := true, apart := false }
def LrscAllSaid : Prop := lrscAllRow.holds Try.pinned (OpenSpec.ofChange lrscAllSpec)

/-- ITS FALSE NEIGHBOUR: 'it returns false'. Refute it at one input. -/
def lrscAllWrong : ChangeSpec := { name := "lrscAll", fn := fun _ => fun
  | [d] => { results := [.lit (.bool false)], args := [d] }
  | _ => none }
def LrscAllWrongFalsely : Prop := lrscAllRow.holds Try.pinned (OpenSpec.ofChange lrscAllWrong)

/-- 'spinnakerlaw12.LrscAround': WHATEVER THE INPUT: true; the input reads as it did. -/
def lrscAroundSpec : ChangeSpec := { name := "lrscAround", fn := fun _ => fun
  | [d1, d2, d3] => { results := [.lit (.bool true)], args := [d1, d2, d3] }
  | _ => none }
def lrscAroundRow : OpenClaim := { program := "ytckgpcpcjhomiaa", sum := "19a472732d5a5ca53c43eebf08446e2292d1d36061c793f676a1bfc36bf9eb72", func := "spinnaker/spinnakerlaw12.LrscAround", spec := "lrscAround", unfollowed := true, recurses := true, apart := false }
def LrscAroundSaid : Prop := lrscAroundRow.holds Try.pinned (OpenSpec.ofChange lrscAroundSpec)

/-- ITS FALSE NEIGHBOUR: 'it returns false'. Refute it at one input. -/
def lrscAroundWrong : ChangeSpec := { name := "lrscAround", fn := fun _ => fun
  | [d1, d2, d3] => { results := [.lit (.bool false)], args := [d1, d2, d3] }
  | _ => none }
def LrscAroundWrongFalsely : Prop := lrscAroundRow.holds Try.pinned (OpenSpec.ofChange lrscAroundWrong)

/- THE SECOND FORM. 'bulk': how many values and letters a reading holds, each counted each time it is reached (what is shared counts as often as it is met; a slice's spare places count too). A statement '..UptoSaid' is the law's where the arguments, and the package variables that the reading takes, are together of bulk at most 1048576: NARROWER than '..Said'. Prove '..Said' where nothing that the law and all that it calls make is longer than what came in: it says more and counts as full. Else prove '..UptoSaid'. A law counts once. -/
mutual
def uptoBulk {H : Type} : DataW H → Nat
  | .lit (.string bytes) => bytes.length + 1
  | .lit _ => 1
  | .nil => 1
  | .ptr d => uptoBulk d + 1
  | .slice elems spare => uptoBulkAll elems + uptoBulkAll spare + 1
  | .agg parts => uptoBulkAll parts + 1
  | .iface _ d => uptoBulk d + 1
  | .map entries => uptoBulkEntries entries + 1
  | .held _ => 1
def uptoBulkAll {H : Type} : List (DataW H) → Nat
  | [] => 0
  | d :: r => uptoBulk d + uptoBulkAll r
def uptoBulkEntries {H : Type} : List (Lit × DataW H) → Nat
  | [] => 0
  | x :: r => uptoBulkEntry x + uptoBulkEntries r
def uptoBulkEntry {H : Type} : Lit × DataW H → Nat
  | (.string bytes, d) => bytes.length + uptoBulk d + 1
  | (_, d) => uptoBulk d + 1
 end
def uptoSmall : (H : Type) → List (DataW H) → Bool := fun _ ds => decide (uptoBulkAll ds ≤ 1048576)
def OpenSpec.upto (s : _root_.Go.ChangeSpec) : _root_.Go.OpenSpec := { _root_.Go.OpenSpec.ofChange s with cond := some uptoSmall }

/-- 'spinnakerlaw12.LrscLengths', WHERE WHAT IT READS IS OF BULK AT MOST 1048576: true; the input reads as it did. -/
def lrscLengthsUptoRow : OpenClaim := { program := "ytckgpcpcjhomiaa", sum := "19a472732d5a5ca53c43eebf08446e2292d1d36061c793f676a1bfc36bf9eb72", func := "spinnaker/spinnakerlaw12.LrscLengths", spec := "lrscLengths", unfollowed := true, recurses := true, apart := false, narrowed := true }
def LrscLengthsUptoSaid : Prop := lrscLengthsUptoRow.holds Try.pinned (OpenSpec.upto lrscLengthsSpec)

/-- 'spinnakerlaw12.LrscAll', WHERE WHAT IT READS IS OF BULK AT MOST 1048576: true; the input reads as it did. -/
def lrscAllUptoRow : OpenClaim := { program := "ytckgpcpcjhomiaa", sum := "19a472732d5a5ca53c43eebf08446e2292d1d36061c793f676a1bfc36bf9eb72", func := "spinnaker/spinnakerlaw12.LrscAll", spec := "lrscAll", unfollowed := true, recurses := true, apart := false, narrowed := true }
def LrscAllUptoSaid : Prop := lrscAllUptoRow.holds Try.pinned (OpenSpec.upto lrscAllSpec)

/-- 'spinnakerlaw12.LrscAround', WHERE WHAT IT READS IS OF BULK AT MOST 1048576: true; the input reads as it did. -/
def lrscAroundUptoRow : OpenClaim := { program := "ytckgpcpcjhomiaa", sum := "19a472732d5a5ca53c43eebf08446e2292d1d36061c793f676a1bfc36bf9eb72", func := "spinnaker/spinnakerlaw12.LrscAround", spec := "lrscAround", unfollowed := true, recurses := true, apart := false, narrowed := true }
def LrscAroundUptoSaid : Prop := lrscAroundUptoRow.holds Try.pinned (OpenSpec.upto lrscAroundSpec)

end Rows
end Go.Proofs.Ytckgpcpcjhomiaa
