/-
  NARROWER THAN 'FOR EVERY INPUT', by the rows' own cells (each row's printed sentence says how): EncWords: laid · EncApart: laid · EncLists: laid.
  DERIVED. THE GIVEN ROWS OF THIS SEAT. 3 by the template 'for every input the law returns true; each argument reads behind the call as it read before'; 0 by the template 'total and deterministic' (their statements: YtagakdcinppeiaaDoorTotals.lean).
  GIVEN WITH THE SEED: the statements are not yours to turn. If you find one false, say at which input.
  Laid BY PROGRAM, IN A SANDBOX (cutbox-rows.mjs): the forced cells as the released guide's own fill.sh prints them over the translation e291f10e56b2ec28… (all of the seat's roots in one cut). By AI agents, Wed Nov 11 2026. No macro, syntax, notation, axiom, sorry.
-/
import Derived.Test.YtagakdcinppeiaaDoorChecked
import GoSem.Claim
import GoSem.ClaimJoined
import GoSem.ClaimMapViews
import Derived.JoinedTies
import Derived.KernelRfl
namespace Go.Proofs.YtagakdcinppeiaaDoor
/- THE CELL 'sum', in the pinned program and in every row, IS THE sha256 OF THE DUMP (.gsa) THAT YtagakdcinppeiaaDoorProg.lean LOADS. Nothing in Lean hashes anything: it is a label: what it is worth is what the hold of that sum in a sandbox is worth. -/
noncomputable def Tryd.pinned : Pinned := { name := "ytagakdcinppeiaadoor", sum := "e291f10e56b2ec285332a0a8b9b2c829d6449348d05311c3b996ba95ce66f659", checked := Tryd.checked }
namespace Rows
def none {H : Type} : Left H := { results := [], args := [] }

/- WHAT THE LISTED PACKAGE-LEVEL VARIABLES READ AS WHEN THE CALL BEGINS. Each datum BY PROGRAM (the guide's laid-datum.mjs) off the statement by which the dump's own 'gosem.cut.vars' lays the variable. In a bare row this is a premise. The card (YtagakdcinppeiaaDoorCards.lean) ties it to the program's text. -/
def laid_spinnaker_enc_words {H : Type} : DataW H := .agg [.lit (.int .u32 0), .lit (.int .u32 55), .lit (.int .u32 23), .lit (.int .u32 111), .lit (.int .u32 103), .lit (.int .u32 99), .lit (.int .u32 4195), .lit (.int .u32 16483), .lit (.int .u32 20579), .lit (.int .u32 24675), .lit (.int .u32 28771), .lit (.int .u32 3), .lit (.int .u32 4099), .lit (.int .u32 8195), .lit (.int .u32 12291), .lit (.int .u32 16387), .lit (.int .u32 20483), .lit (.int .u32 24579), .lit (.int .u32 35), .lit (.int .u32 4131), .lit (.int .u32 8227), .lit (.int .u32 12323), .lit (.int .u32 19), .lit (.int .u32 8211), .lit (.int .u32 12307), .lit (.int .u32 16403), .lit (.int .u32 24595), .lit (.int .u32 28691), .lit (.int .u32 4115), .lit (.int .u32 20499), .lit (.int .u32 1073762323), .lit (.int .u32 27), .lit (.int .u32 4123), .lit (.int .u32 20507), .lit (.int .u32 1073762331), .lit (.int .u32 51), .lit (.int .u32 1073741875), .lit (.int .u32 4147), .lit (.int .u32 8243), .lit (.int .u32 12339), .lit (.int .u32 16435), .lit (.int .u32 20531), .lit (.int .u32 1073762355), .lit (.int .u32 24627), .lit (.int .u32 28723), .lit (.int .u32 59), .lit (.int .u32 1073741883), .lit (.int .u32 4155), .lit (.int .u32 20539), .lit (.int .u32 1073762363), .lit (.int .u32 33554483), .lit (.int .u32 33558579), .lit (.int .u32 33562675), .lit (.int .u32 33566771), .lit (.int .u32 33570867), .lit (.int .u32 33574963), .lit (.int .u32 33579059), .lit (.int .u32 33583155), .lit (.int .u32 33554491), .lit (.int .u32 33570875), .lit (.int .u32 33574971), .lit (.int .u32 33579067), .lit (.int .u32 33583163), .lit (.int .u32 15), .lit (.int .u32 115), .lit (.int .u32 1048691), .lit (.int .u32 268443695), .lit (.int .u32 402661423), .lit (.int .u32 134225967), .lit (.int .u32 8239), .lit (.int .u32 536879151), .lit (.int .u32 1610620975), .lit (.int .u32 1073750063), .lit (.int .u32 2147491887), .lit (.int .u32 2684362799), .lit (.int .u32 3221233711), .lit (.int .u32 3758104623)]
def laid_spinnaker_enc_fields {H : Type} : DataW H := .agg [.agg [.lit (.int .i64 7), .lit (.int .i64 5), .lit (.int .i64 0)], .agg [.lit (.int .i64 15), .lit (.int .i64 5), .lit (.int .i64 0)], .agg [.lit (.int .i64 20), .lit (.int .i64 5), .lit (.int .i64 0)], .agg [.lit (.int .i64 26), .lit (.int .i64 1), .lit (.int .i64 0)], .agg [.lit (.int .i64 25), .lit (.int .i64 1), .lit (.int .i64 0)], .agg [.lit (.int .i64 12), .lit (.int .i64 20), .lit (.int .i64 0)], .agg [.lit (.int .i64 31), .lit (.int .i64 1), .lit (.int .i64 20)], .agg [.lit (.int .i64 12), .lit (.int .i64 8), .lit (.int .i64 12)], .agg [.lit (.int .i64 20), .lit (.int .i64 1), .lit (.int .i64 11)], .agg [.lit (.int .i64 21), .lit (.int .i64 10), .lit (.int .i64 1)], .agg [.lit (.int .i64 20), .lit (.int .i64 12), .lit (.int .i64 0)], .agg [.lit (.int .i64 31), .lit (.int .i64 1), .lit (.int .i64 12)], .agg [.lit (.int .i64 7), .lit (.int .i64 1), .lit (.int .i64 11)], .agg [.lit (.int .i64 25), .lit (.int .i64 6), .lit (.int .i64 5)], .agg [.lit (.int .i64 8), .lit (.int .i64 4), .lit (.int .i64 1)], .agg [.lit (.int .i64 25), .lit (.int .i64 7), .lit (.int .i64 5)], .agg [.lit (.int .i64 7), .lit (.int .i64 5), .lit (.int .i64 0)], .agg [.lit (.int .i64 20), .lit (.int .i64 6), .lit (.int .i64 0)], .agg [.lit (.int .i64 20), .lit (.int .i64 5), .lit (.int .i64 0)], .agg [.lit (.int .i64 20), .lit (.int .i64 8), .lit (.int .i64 0)]]

/-- 'spinnakerlaw04.EncWords': WHATEVER THE INPUT: true; the input reads as it did. -/
def encWordsSpec : ChangeSpec := { name := "encWords", fn := fun _ => fun
  | [d] => { results := [.lit (.bool true)], args := [d] }
  | _ => none }
def encWordsRow : OpenClaim := { program := "ytagakdcinppeiaadoor", sum := "e291f10e56b2ec285332a0a8b9b2c829d6449348d05311c3b996ba95ce66f659", func := "spinnaker/spinnakerlaw04.EncWords", spec := "encWords", named := ["spinnaker/enc.fields", "spinnaker/enc.words"], apart := false, laid := [("spinnaker/enc.words", laid_spinnaker_enc_words), ("spinnaker/enc.fields", laid_spinnaker_enc_fields)] }
def EncWordsSaid : Prop := encWordsRow.holds Tryd.pinned (OpenSpec.ofChange encWordsSpec)

/-- ITS FALSE NEIGHBOUR: 'it returns false'. Refute it at one input. -/
def encWordsWrong : ChangeSpec := { name := "encWords", fn := fun _ => fun
  | [d] => { results := [.lit (.bool false)], args := [d] }
  | _ => none }
def EncWordsWrongFalsely : Prop := encWordsRow.holds Tryd.pinned (OpenSpec.ofChange encWordsWrong)

/-- 'spinnakerlaw04.EncApart': WHATEVER THE INPUT: true; the input reads as it did. -/
def encApartSpec : ChangeSpec := { name := "encApart", fn := fun _ => fun
  | [d1, d2] => { results := [.lit (.bool true)], args := [d1, d2] }
  | _ => none }
def encApartRow : OpenClaim := { program := "ytagakdcinppeiaadoor", sum := "e291f10e56b2ec285332a0a8b9b2c829d6449348d05311c3b996ba95ce66f659", func := "spinnaker/spinnakerlaw04.EncApart", spec := "encApart", named := ["spinnaker/enc.fields", "spinnaker/enc.words"], apart := false, laid := [("spinnaker/enc.words", laid_spinnaker_enc_words), ("spinnaker/enc.fields", laid_spinnaker_enc_fields)] }
def EncApartSaid : Prop := encApartRow.holds Tryd.pinned (OpenSpec.ofChange encApartSpec)

/-- ITS FALSE NEIGHBOUR: 'it returns false'. Refute it at one input. -/
def encApartWrong : ChangeSpec := { name := "encApart", fn := fun _ => fun
  | [d1, d2] => { results := [.lit (.bool false)], args := [d1, d2] }
  | _ => none }
def EncApartWrongFalsely : Prop := encApartRow.holds Tryd.pinned (OpenSpec.ofChange encApartWrong)

/-- 'spinnakerlaw04.EncLists': WHATEVER THE INPUT: true; the input reads as it did. -/
def encListsSpec : ChangeSpec := { name := "encLists", fn := fun _ => fun
  | [d] => { results := [.lit (.bool true)], args := [d] }
  | _ => none }
def encListsRow : OpenClaim := { program := "ytagakdcinppeiaadoor", sum := "e291f10e56b2ec285332a0a8b9b2c829d6449348d05311c3b996ba95ce66f659", func := "spinnaker/spinnakerlaw04.EncLists", spec := "encLists", named := ["spinnaker/enc.fields", "spinnaker/enc.words"], apart := false, laid := [("spinnaker/enc.words", laid_spinnaker_enc_words), ("spinnaker/enc.fields", laid_spinnaker_enc_fields)] }
def EncListsSaid : Prop := encListsRow.holds Tryd.pinned (OpenSpec.ofChange encListsSpec)

/-- ITS FALSE NEIGHBOUR: 'it returns false'. Refute it at one input. -/
def encListsWrong : ChangeSpec := { name := "encLists", fn := fun _ => fun
  | [d] => { results := [.lit (.bool false)], args := [d] }
  | _ => none }
def EncListsWrongFalsely : Prop := encListsRow.holds Tryd.pinned (OpenSpec.ofChange encListsWrong)

/- THE SECOND FORM. 'bulk': how many values and letters a reading holds, each counted each time it is reached (what is shared counts as often as it is met; a slice's spare places count too). A statement '..UptoSaid' is the law's where the arguments, and the package variables that the reading takes, are together of bulk at most 1048576: NARROWER than '..Said'. Prove '..Said' where nothing that the law and all that it calls make is longer than what came in: it says more and counts as full. Else prove '..UptoSaid'. A law counts once. -/
mutual
def uptoBulk {H : Type} : DataW H → Nat
  | .lit (.string bytes) => bytes.length + 1
  | .lit _ => 1
  | .nil => 1
  | .ptr d => uptoBulk d + 1
  | .slice elems spare => uptoBulkAll elems + uptoBulkAll spare + 1
  | .agg parts => uptoBulkAll parts + 1
  | .iface _ d => uptoBulk d + 1
  | .map entries => uptoBulkEntries entries + 1
  | .held _ => 1
def uptoBulkAll {H : Type} : List (DataW H) → Nat
  | [] => 0
  | d :: r => uptoBulk d + uptoBulkAll r
def uptoBulkEntries {H : Type} : List (Lit × DataW H) → Nat
  | [] => 0
  | x :: r => uptoBulkEntry x + uptoBulkEntries r
def uptoBulkEntry {H : Type} : Lit × DataW H → Nat
  | (.string bytes, d) => bytes.length + uptoBulk d + 1
  | (_, d) => uptoBulk d + 1
 end
def uptoSmall : (H : Type) → List (DataW H) → Bool := fun _ ds => decide (uptoBulkAll ds ≤ 1048576)
def OpenSpec.upto (s : _root_.Go.ChangeSpec) : _root_.Go.OpenSpec := { _root_.Go.OpenSpec.ofChange s with cond := some uptoSmall }

/-- 'spinnakerlaw04.EncWords', WHERE WHAT IT READS IS OF BULK AT MOST 1048576: true; the input reads as it did. -/
def encWordsUptoRow : OpenClaim := { program := "ytagakdcinppeiaadoor", sum := "e291f10e56b2ec285332a0a8b9b2c829d6449348d05311c3b996ba95ce66f659", func := "spinnaker/spinnakerlaw04.EncWords", spec := "encWords", named := ["spinnaker/enc.fields", "spinnaker/enc.words"], apart := false, laid := [("spinnaker/enc.words", laid_spinnaker_enc_words), ("spinnaker/enc.fields", laid_spinnaker_enc_fields)], narrowed := true }
def EncWordsUptoSaid : Prop := encWordsUptoRow.holds Tryd.pinned (OpenSpec.upto encWordsSpec)

/-- 'spinnakerlaw04.EncApart', WHERE WHAT IT READS IS OF BULK AT MOST 1048576: true; the input reads as it did. -/
def encApartUptoRow : OpenClaim := { program := "ytagakdcinppeiaadoor", sum := "e291f10e56b2ec285332a0a8b9b2c829d6449348d05311c3b996ba95ce66f659", func := "spinnaker/spinnakerlaw04.EncApart", spec := "encApart", named := ["spinnaker/enc.fields", "spinnaker/enc.words"], apart := false, laid := [("spinnaker/enc.words", laid_spinnaker_enc_words), ("spinnaker/enc.fields", laid_spinnaker_enc_fields)], narrowed := true }
def EncApartUptoSaid : Prop := encApartUptoRow.holds Tryd.pinned (OpenSpec.upto encApartSpec)

/-- 'spinnakerlaw04.EncLists', WHERE WHAT IT READS IS OF BULK AT MOST 1048576: true; the input reads as it did. -/
def encListsUptoRow : OpenClaim := { program := "ytagakdcinppeiaadoor", sum := "e291f10e56b2ec285332a0a8b9b2c829d6449348d05311c3b996ba95ce66f659", func := "spinnaker/spinnakerlaw04.EncLists", spec := "encLists", named := ["spinnaker/enc.fields", "spinnaker/enc.words"], apart := false, laid := [("spinnaker/enc.words", laid_spinnaker_enc_words), ("spinnaker/enc.fields", laid_spinnaker_enc_fields)], narrowed := true }
def EncListsUptoSaid : Prop := encListsUptoRow.holds Tryd.pinned (OpenSpec.upto encListsSpec)

end Rows
end Go.Proofs.YtagakdcinppeiaaDoor
