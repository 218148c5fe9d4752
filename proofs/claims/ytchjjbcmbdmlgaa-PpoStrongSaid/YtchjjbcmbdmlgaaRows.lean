/-
  No cell of these rows narrows 'for every input' (looked for: loops, veiled, ifaces, maps, wideKeys, modest, calm, conditions, laid).
  DERIVED. THE GIVEN ROWS OF THIS SEAT. 3 by the template 'for every input the law returns true; each argument reads behind the call as it read before'; 0 by the template 'total and deterministic' (their statements: YtchjjbcmbdmlgaaTotals.lean).
  GIVEN WITH THE SEED: the statements are not yours to turn. If you find one false, say at which input.
  Laid BY PROGRAM, IN A SANDBOX (cutbox-rows.mjs): the forced cells as the released guide's own fill.sh prints them over the translation 0ec192106a9667ad… (all of the seat's roots in one cut). By AI agents, Wed Nov 11 2026. No macro, syntax, notation, axiom, sorry.
-/
import Derived.Test.YtchjjbcmbdmlgaaChecked
import GoSem.Claim
import GoSem.ClaimJoined
import GoSem.ClaimMapViews
import Derived.JoinedTies
import Derived.KernelRfl
namespace Go.Proofs.Ytchjjbcmbdmlgaa
/- THE CELL 'sum', in the pinned program and in every row, IS THE sha256 OF THE DUMP (.gsa) THAT YtchjjbcmbdmlgaaProg.lean LOADS. Nothing in Lean hashes anything: it is a label: what it is worth is what the hold of that sum in a sandbox is worth. -/
noncomputable def Try.pinned : Pinned := { name := "ytchjjbcmbdmlgaa", sum := "0ec192106a9667adf0aa35407f2db7f4249df78b13c9b434d2f1b1c0602e9273", checked := Try.checked }
namespace Rows
def none {H : Type} : Left H := { results := [], args := [] }

/-- 'spinnakerlaw16.PpoRules': WHATEVER THE INPUT: true; the input reads as it did. -/
def ppoRulesSpec : ChangeSpec := { name := "ppoRules", fn := fun _ => fun
  | [d1, d2, d3] => { results := [.lit (.bool true)], args := [d1, d2, d3] }
  | _ => none }
def ppoRulesRow : OpenClaim := { program := "ytchjjbcmbdmlgaa", sum := "0ec192106a9667adf0aa35407f2db7f4249df78b13c9b434d2f1b1c0602e9273", func := "spinnaker/spinnakerlaw16.PpoRules", spec := "ppoRules", unfollowed := true, recurses := true, apart := false }
def PpoRulesSaid : Prop := ppoRulesRow.holds Try.pinned (OpenSpec.ofChange ppoRulesSpec)

/-- ITS FALSE NEIGHBOUR: 'it returns false'. Refute it at one input. -/
def ppoRulesWrong : ChangeSpec := { name := "ppoRules", fn := fun _ => fun
  | [d1, d2, d3] => { results := [.lit (.bool false)], args := [d1, d2, d3] }
  | _ => none }
def PpoRulesWrongFalsely : Prop := ppoRulesRow.holds Try.pinned (OpenSpec.ofChange ppoRulesWrong)

/-- 'spinnakerlaw16.PpoAll': WHATEVER THE INPUT: true; the input reads as it did. -/
def ppoAllSpec : ChangeSpec := { name := "ppoAll", fn := fun _ => fun
  | [d1, d2] => { results := [.lit (.bool true)], args := [d1, d2] }
  | _ => none }
def ppoAllRow : OpenClaim := { program := "ytchjjbcmbdmlgaa", sum := "0ec192106a9667adf0aa35407f2db7f4249df78b13c9b434d2f1b1c0602e9273", func := "spinnaker/spinnakerlaw16.PpoAll", spec := "ppoAll", unfollowed := true, recurses := true, apart := false }
def PpoAllSaid : Prop := ppoAllRow.holds Try.pinned (OpenSpec.ofChange ppoAllSpec)

/-- ITS FALSE NEIGHBOUR: 'it returns false'. Refute it at one input. -/
def ppoAllWrong : ChangeSpec := { name := "ppoAll", fn := fun _ => fun
  | [d1, d2] => { results := [.lit (.bool false)], args := [d1, d2] }
  | _ => none }
def PpoAllWrongFalsely : Prop := ppoAllRow.holds Try.pinned (OpenSpec.ofChange ppoAllWrong)

/-- 'spinnakerlaw16.PpoStrong': WHATEVER THE INPUT: true; the input reads as it did. -/
def ppoStrongSpec : ChangeSpec := { name := "ppoStrong", fn := fun _ => fun
  | [d1, d2] => { results := [.lit (.bool true)], args := [d1, d2] }
  | _ => none }
def ppoStrongRow : OpenClaim := { program := "ytchjjbcmbdmlgaa", sum := "0ec192106a9667adf0aa35407f2db7f4249df78b13c9b434d2f1b1c0602e9273", func := "spinnaker/spinnakerlaw16.PpoStrong", spec := "ppoStrong", unfollowed := true, recurses := true, apart := false }
def PpoStrongSaid : Prop := ppoStrongRow.holds Try.pinned (OpenSpec.ofChange ppoStrongSpec)

/-- ITS FALSE NEIGHBOUR: 'it returns false'. Refute it at one input. -/
def ppoStrongWrong : ChangeSpec := { name := "ppoStrong", fn := fun _ => fun
  | [d1, d2] => { results := [.lit (.bool false)], args := [d1, d2] }
  | _ => none }
def PpoStrongWrongFalsely : Prop := ppoStrongRow.holds Try.pinned (OpenSpec.ofChange ppoStrongWrong)

/- THE SECOND FORM. 'bulk': how many values and letters a reading holds, each counted each time it is reached (what is shared counts as often as it is met; a slice's spare places count too). A statement '..UptoSaid' is the law's where the arguments, and the package variables that the reading takes, are together of bulk at most 1048576: NARROWER than '..Said'. Prove '..Said' where nothing that the law and all that it calls make is longer than what came in: it says more and counts as full. Else prove '..UptoSaid'. A law counts once. -/
mutual
def uptoBulk {H : Type} : DataW H → Nat
  | .lit (.string bytes) => bytes.length + 1
  | .lit _ => 1
  | .nil => 1
  | .ptr d => uptoBulk d + 1
  | .slice elems spare => uptoBulkAll elems + uptoBulkAll spare + 1
  | .agg parts => uptoBulkAll parts + 1
  | .iface _ d => uptoBulk d + 1
  | .map entries => uptoBulkEntries entries + 1
  | .held _ => 1
def uptoBulkAll {H : Type} : List (DataW H) → Nat
  | [] => 0
  | d :: r => uptoBulk d + uptoBulkAll r
def uptoBulkEntries {H : Type} : List (Lit × DataW H) → Nat
  | [] => 0
  | x :: r => uptoBulkEntry x + uptoBulkEntries r
def uptoBulkEntry {H : Type} : Lit × DataW H → Nat
  | (.string bytes, d) => bytes.length + uptoBulk d + 1
  | (_, d) => uptoBulk d + 1
 end
def uptoSmall : (H : Type) → List (DataW H) → Bool := fun _ ds => decide (uptoBulkAll ds ≤ 1048576)
def OpenSpec.upto (s : _root_.Go.ChangeSpec) : _root_.Go.OpenSpec := { _root_.Go.OpenSpec.ofChange s with cond := some uptoSmall }

/-- 'spinnakerlaw16.PpoRules', WHERE WHAT IT READS IS OF BULK AT MOST 1048576: true; the input reads as it did. -/
def ppoRulesUptoRow : OpenClaim := { program := "ytchjjbcmbdmlgaa", sum := "0ec192106a9667adf0aa35407f2db7f4249df78b13c9b434d2f1b1c0602e9273", func := "spinnaker/spinnakerlaw16.PpoRules", spec := "ppoRules", unfollowed := true, recurses := true, apart := false, narrowed := true }
def PpoRulesUptoSaid : Prop := ppoRulesUptoRow.holds Try.pinned (OpenSpec.upto ppoRulesSpec)

/-- 'spinnakerlaw16.PpoAll', WHERE WHAT IT READS IS OF BULK AT MOST 1048576: true; the input reads as it did. -/
def ppoAllUptoRow : OpenClaim := { program := "ytchjjbcmbdmlgaa", sum := "0ec192106a9667adf0aa35407f2db7f4249df78b13c9b434d2f1b1c0602e9273", func := "spinnaker/spinnakerlaw16.PpoAll", spec := "ppoAll", unfollowed := true, recurses := true, apart := false, narrowed := true }
def PpoAllUptoSaid : Prop := ppoAllUptoRow.holds Try.pinned (OpenSpec.upto ppoAllSpec)

/-- 'spinnakerlaw16.PpoStrong', WHERE WHAT IT READS IS OF BULK AT MOST 1048576: true; the input reads as it did. -/
def ppoStrongUptoRow : OpenClaim := { program := "ytchjjbcmbdmlgaa", sum := "0ec192106a9667adf0aa35407f2db7f4249df78b13c9b434d2f1b1c0602e9273", func := "spinnaker/spinnakerlaw16.PpoStrong", spec := "ppoStrong", unfollowed := true, recurses := true, apart := false, narrowed := true }
def PpoStrongUptoSaid : Prop := ppoStrongUptoRow.holds Try.pinned (OpenSpec.upto ppoStrongSpec)

end Rows
end Go.Proofs.Ytchjjbcmbdmlgaa
