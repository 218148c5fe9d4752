/-
  NARROWER THAN 'FOR EVERY INPUT', by the rows' own cells (each row's printed sentence says how): RegNames: laid · RegParses: laid · RegSets: laid · RegChanges: laid.
  DERIVED. THE GIVEN ROWS OF THIS SEAT. 4 by the template 'for every input the law returns true; each argument reads behind the call as it read before'; 0 by the template 'total and deterministic' (their statements: YtpjpcddjbebhjaaDoorTotals.lean).
  GIVEN WITH THE SEED: the statements are not yours to turn. If you find one false, say at which input.
  Laid BY PROGRAM, IN A SANDBOX (cutbox-rows.mjs): the forced cells as the released guide's own fill.sh prints them over the translation 5d7ec77bb4276c2a… (all of the seat's roots in one cut). By AI agents, Wed Nov 11 2026. No macro, syntax, notation, axiom, sorry.
-/
import Derived.Test.YtpjpcddjbebhjaaDoorChecked
import GoSem.Claim
import GoSem.ClaimJoined
import GoSem.ClaimMapViews
import Derived.JoinedTies
import Derived.KernelRfl
namespace Go.Proofs.YtpjpcddjbebhjaaDoor
/- THE CELL 'sum', in the pinned program and in every row, IS THE sha256 OF THE DUMP (.gsa) THAT YtpjpcddjbebhjaaDoorProg.lean LOADS. Nothing in Lean hashes anything: it is a label: what it is worth is what the hold of that sum in a sandbox is worth. -/
noncomputable def Tryd.pinned : Pinned := { name := "ytpjpcddjbebhjaadoor", sum := "5d7ec77bb4276c2a2fd12bcf5e7bc6f7629f7ea1d9da748299bcaa82e6618e41", checked := Tryd.checked }
namespace Rows
def none {H : Type} : Left H := { results := [], args := [] }

/- WHAT THE LISTED PACKAGE-LEVEL VARIABLES READ AS WHEN THE CALL BEGINS. Each datum BY PROGRAM (the guide's laid-datum.mjs) off the statement by which the dump's own 'gosem.cut.vars' lays the variable. In a bare row this is a premise. The card (YtpjpcddjbebhjaaDoorCards.lean) ties it to the program's text. -/
def laid_spinnaker_reg_abi {H : Type} : DataW H := .agg [.lit (.string [122, 101, 114, 111]), .lit (.string [114, 97]), .lit (.string [115, 112]), .lit (.string [103, 112]), .lit (.string [116, 112]), .lit (.string [116, 48]), .lit (.string [116, 49]), .lit (.string [116, 50]), .lit (.string [115, 48]), .lit (.string [115, 49]), .lit (.string [97, 48]), .lit (.string [97, 49]), .lit (.string [97, 50]), .lit (.string [97, 51]), .lit (.string [97, 52]), .lit (.string [97, 53]), .lit (.string [97, 54]), .lit (.string [97, 55]), .lit (.string [115, 50]), .lit (.string [115, 51]), .lit (.string [115, 52]), .lit (.string [115, 53]), .lit (.string [115, 54]), .lit (.string [115, 55]), .lit (.string [115, 56]), .lit (.string [115, 57]), .lit (.string [115, 49, 48]), .lit (.string [115, 49, 49]), .lit (.string [116, 51]), .lit (.string [116, 52]), .lit (.string [116, 53]), .lit (.string [116, 54])]

/-- 'spinnakerlaw02.RegNames': WHATEVER THE INPUT: true; the input reads as it did. -/
def regNamesSpec : ChangeSpec := { name := "regNames", fn := fun _ => fun
  | [d] => { results := [.lit (.bool true)], args := [d] }
  | _ => none }
def regNamesRow : OpenClaim := { program := "ytpjpcddjbebhjaadoor", sum := "5d7ec77bb4276c2a2fd12bcf5e7bc6f7629f7ea1d9da748299bcaa82e6618e41", func := "spinnaker/spinnakerlaw02.RegNames", spec := "regNames", recurses := true, named := ["spinnaker/reg.abi"], apart := false, laid := [("spinnaker/reg.abi", laid_spinnaker_reg_abi)] }
def RegNamesSaid : Prop := regNamesRow.holds Tryd.pinned (OpenSpec.ofChange regNamesSpec)

/-- ITS FALSE NEIGHBOUR: 'it returns false'. Refute it at one input. -/
def regNamesWrong : ChangeSpec := { name := "regNames", fn := fun _ => fun
  | [d] => { results := [.lit (.bool false)], args := [d] }
  | _ => none }
def RegNamesWrongFalsely : Prop := regNamesRow.holds Tryd.pinned (OpenSpec.ofChange regNamesWrong)

/-- 'spinnakerlaw02.RegParses': WHATEVER THE INPUT: true; the input reads as it did. -/
def regParsesSpec : ChangeSpec := { name := "regParses", fn := fun _ => fun
  | [d] => { results := [.lit (.bool true)], args := [d] }
  | _ => none }
def regParsesRow : OpenClaim := { program := "ytpjpcddjbebhjaadoor", sum := "5d7ec77bb4276c2a2fd12bcf5e7bc6f7629f7ea1d9da748299bcaa82e6618e41", func := "spinnaker/spinnakerlaw02.RegParses", spec := "regParses", recurses := true, named := ["spinnaker/reg.abi"], apart := false, laid := [("spinnaker/reg.abi", laid_spinnaker_reg_abi)] }
def RegParsesSaid : Prop := regParsesRow.holds Tryd.pinned (OpenSpec.ofChange regParsesSpec)

/-- ITS FALSE NEIGHBOUR: 'it returns false'. Refute it at one input. -/
def regParsesWrong : ChangeSpec := { name := "regParses", fn := fun _ => fun
  | [d] => { results := [.lit (.bool false)], args := [d] }
  | _ => none }
def RegParsesWrongFalsely : Prop := regParsesRow.holds Tryd.pinned (OpenSpec.ofChange regParsesWrong)

/-- 'spinnakerlaw02.RegSets': WHATEVER THE INPUT: true; the input reads as it did. -/
def regSetsSpec : ChangeSpec := { name := "regSets", fn := fun _ => fun
  | [d1, d2] => { results := [.lit (.bool true)], args := [d1, d2] }
  | _ => none }
def regSetsRow : OpenClaim := { program := "ytpjpcddjbebhjaadoor", sum := "5d7ec77bb4276c2a2fd12bcf5e7bc6f7629f7ea1d9da748299bcaa82e6618e41", func := "spinnaker/spinnakerlaw02.RegSets", spec := "regSets", recurses := true, named := ["spinnaker/reg.abi"], apart := false, laid := [("spinnaker/reg.abi", laid_spinnaker_reg_abi)] }
def RegSetsSaid : Prop := regSetsRow.holds Tryd.pinned (OpenSpec.ofChange regSetsSpec)

/-- ITS FALSE NEIGHBOUR: 'it returns false'. Refute it at one input. -/
def regSetsWrong : ChangeSpec := { name := "regSets", fn := fun _ => fun
  | [d1, d2] => { results := [.lit (.bool false)], args := [d1, d2] }
  | _ => none }
def RegSetsWrongFalsely : Prop := regSetsRow.holds Tryd.pinned (OpenSpec.ofChange regSetsWrong)

/-- 'spinnakerlaw02.RegChanges': WHATEVER THE INPUT: true; the input reads as it did. -/
def regChangesSpec : ChangeSpec := { name := "regChanges", fn := fun _ => fun
  | [d1, d2] => { results := [.lit (.bool true)], args := [d1, d2] }
  | _ => none }
def regChangesRow : OpenClaim := { program := "ytpjpcddjbebhjaadoor", sum := "5d7ec77bb4276c2a2fd12bcf5e7bc6f7629f7ea1d9da748299bcaa82e6618e41", func := "spinnaker/spinnakerlaw02.RegChanges", spec := "regChanges", recurses := true, named := ["spinnaker/reg.abi"], apart := false, laid := [("spinnaker/reg.abi", laid_spinnaker_reg_abi)] }
def RegChangesSaid : Prop := regChangesRow.holds Tryd.pinned (OpenSpec.ofChange regChangesSpec)

/-- ITS FALSE NEIGHBOUR: 'it returns false'. Refute it at one input. -/
def regChangesWrong : ChangeSpec := { name := "regChanges", fn := fun _ => fun
  | [d1, d2] => { results := [.lit (.bool false)], args := [d1, d2] }
  | _ => none }
def RegChangesWrongFalsely : Prop := regChangesRow.holds Tryd.pinned (OpenSpec.ofChange regChangesWrong)

/- THE SECOND FORM. 'bulk': how many values and letters a reading holds, each counted each time it is reached (what is shared counts as often as it is met; a slice's spare places count too). A statement '..UptoSaid' is the law's where the arguments, and the package variables that the reading takes, are together of bulk at most 1048576: NARROWER than '..Said'. Prove '..Said' where nothing that the law and all that it calls make is longer than what came in: it says more and counts as full. Else prove '..UptoSaid'. A law counts once. -/
mutual
def uptoBulk {H : Type} : DataW H → Nat
  | .lit (.string bytes) => bytes.length + 1
  | .lit _ => 1
  | .nil => 1
  | .ptr d => uptoBulk d + 1
  | .slice elems spare => uptoBulkAll elems + uptoBulkAll spare + 1
  | .agg parts => uptoBulkAll parts + 1
  | .iface _ d => uptoBulk d + 1
  | .map entries => uptoBulkEntries entries + 1
  | .held _ => 1
def uptoBulkAll {H : Type} : List (DataW H) → Nat
  | [] => 0
  | d :: r => uptoBulk d + uptoBulkAll r
def uptoBulkEntries {H : Type} : List (Lit × DataW H) → Nat
  | [] => 0
  | x :: r => uptoBulkEntry x + uptoBulkEntries r
def uptoBulkEntry {H : Type} : Lit × DataW H → Nat
  | (.string bytes, d) => bytes.length + uptoBulk d + 1
  | (_, d) => uptoBulk d + 1
 end
def uptoSmall : (H : Type) → List (DataW H) → Bool := fun _ ds => decide (uptoBulkAll ds ≤ 1048576)
def OpenSpec.upto (s : _root_.Go.ChangeSpec) : _root_.Go.OpenSpec := { _root_.Go.OpenSpec.ofChange s with cond := some uptoSmall }

/-- 'spinnakerlaw02.RegNames', WHERE WHAT IT READS IS OF BULK AT MOST 1048576: true; the input reads as it did. -/
def regNamesUptoRow : OpenClaim := { program := "ytpjpcddjbebhjaadoor", sum := "5d7ec77bb4276c2a2fd12bcf5e7bc6f7629f7ea1d9da748299bcaa82e6618e41", func := "spinnaker/spinnakerlaw02.RegNames", spec := "regNames", recurses := true, named := ["spinnaker/reg.abi"], apart := false, laid := [("spinnaker/reg.abi", laid_spinnaker_reg_abi)], narrowed := true }
def RegNamesUptoSaid : Prop := regNamesUptoRow.holds Tryd.pinned (OpenSpec.upto regNamesSpec)

/-- 'spinnakerlaw02.RegParses', WHERE WHAT IT READS IS OF BULK AT MOST 1048576: true; the input reads as it did. -/
def regParsesUptoRow : OpenClaim := { program := "ytpjpcddjbebhjaadoor", sum := "5d7ec77bb4276c2a2fd12bcf5e7bc6f7629f7ea1d9da748299bcaa82e6618e41", func := "spinnaker/spinnakerlaw02.RegParses", spec := "regParses", recurses := true, named := ["spinnaker/reg.abi"], apart := false, laid := [("spinnaker/reg.abi", laid_spinnaker_reg_abi)], narrowed := true }
def RegParsesUptoSaid : Prop := regParsesUptoRow.holds Tryd.pinned (OpenSpec.upto regParsesSpec)

/-- 'spinnakerlaw02.RegSets', WHERE WHAT IT READS IS OF BULK AT MOST 1048576: true; the input reads as it did. -/
def regSetsUptoRow : OpenClaim := { program := "ytpjpcddjbebhjaadoor", sum := "5d7ec77bb4276c2a2fd12bcf5e7bc6f7629f7ea1d9da748299bcaa82e6618e41", func := "spinnaker/spinnakerlaw02.RegSets", spec := "regSets", recurses := true, named := ["spinnaker/reg.abi"], apart := false, laid := [("spinnaker/reg.abi", laid_spinnaker_reg_abi)], narrowed := true }
def RegSetsUptoSaid : Prop := regSetsUptoRow.holds Tryd.pinned (OpenSpec.upto regSetsSpec)

/-- 'spinnakerlaw02.RegChanges', WHERE WHAT IT READS IS OF BULK AT MOST 1048576: true; the input reads as it did. -/
def regChangesUptoRow : OpenClaim := { program := "ytpjpcddjbebhjaadoor", sum := "5d7ec77bb4276c2a2fd12bcf5e7bc6f7629f7ea1d9da748299bcaa82e6618e41", func := "spinnaker/spinnakerlaw02.RegChanges", spec := "regChanges", recurses := true, named := ["spinnaker/reg.abi"], apart := false, laid := [("spinnaker/reg.abi", laid_spinnaker_reg_abi)], narrowed := true }
def RegChangesUptoSaid : Prop := regChangesUptoRow.holds Tryd.pinned (OpenSpec.upto regChangesSpec)

end Rows
end Go.Proofs.YtpjpcddjbebhjaaDoor
