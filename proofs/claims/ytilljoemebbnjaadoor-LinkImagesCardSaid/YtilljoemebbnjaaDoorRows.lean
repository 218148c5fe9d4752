/-
  NARROWER THAN 'FOR EVERY INPUT', by the rows' own cells (each row's printed sentence says how): LinkImages: laid · LinkStubs: laid · LinkAlone: laid.
  DERIVED. THE GIVEN ROWS OF THIS SEAT. 3 by the template 'for every input the law returns true; each argument reads behind the call as it read before'; 0 by the template 'total and deterministic' (their statements: YtilljoemebbnjaaDoorTotals.lean).
  GIVEN WITH THE SEED: the statements are not yours to turn. If you find one false, say at which input.
  Laid BY PROGRAM, IN A SANDBOX (cutbox-rows.mjs): the forced cells as the released guide's own fill.sh prints them over the translation 91e8f769e4c75288… (all of the seat's roots in one cut). By AI agents, Wed Nov 11 2026. No macro, syntax, notation, axiom, sorry.
-/
import Derived.Test.YtilljoemebbnjaaDoorChecked
import GoSem.Claim
import GoSem.ClaimJoined
import GoSem.ClaimMapViews
import Derived.JoinedTies
import Derived.KernelRfl
namespace Go.Proofs.YtilljoemebbnjaaDoor
/- THE CELL 'sum', in the pinned program and in every row, IS THE sha256 OF THE DUMP (.gsa) THAT YtilljoemebbnjaaDoorProg.lean LOADS. Nothing in Lean hashes anything: it is a label: what it is worth is what the hold of that sum in a sandbox is worth. -/
noncomputable def Tryd.pinned : Pinned := { name := "ytilljoemebbnjaadoor", sum := "91e8f769e4c752885e969c74d8af627f82232bd4e370c0bf0f4cca2ca229c5a1", checked := Tryd.checked }
namespace Rows
def none {H : Type} : Left H := { results := [], args := [] }

/- WHAT THE LISTED PACKAGE-LEVEL VARIABLES READ AS WHEN THE CALL BEGINS. Each datum BY PROGRAM (the guide's laid-datum.mjs) off the statement by which the dump's own 'gosem.cut.vars' lays the variable. In a bare row this is a premise. The card (YtilljoemebbnjaaDoorCards.lean) ties it to the program's text. -/
def laid_math_bits_deBruijn64tab {H : Type} : DataW H := .agg [.lit (.int .u8 0), .lit (.int .u8 1), .lit (.int .u8 56), .lit (.int .u8 2), .lit (.int .u8 57), .lit (.int .u8 49), .lit (.int .u8 28), .lit (.int .u8 3), .lit (.int .u8 61), .lit (.int .u8 58), .lit (.int .u8 42), .lit (.int .u8 50), .lit (.int .u8 38), .lit (.int .u8 29), .lit (.int .u8 17), .lit (.int .u8 4), .lit (.int .u8 62), .lit (.int .u8 47), .lit (.int .u8 59), .lit (.int .u8 36), .lit (.int .u8 45), .lit (.int .u8 43), .lit (.int .u8 51), .lit (.int .u8 22), .lit (.int .u8 53), .lit (.int .u8 39), .lit (.int .u8 33), .lit (.int .u8 30), .lit (.int .u8 24), .lit (.int .u8 18), .lit (.int .u8 12), .lit (.int .u8 5), .lit (.int .u8 63), .lit (.int .u8 55), .lit (.int .u8 48), .lit (.int .u8 27), .lit (.int .u8 60), .lit (.int .u8 41), .lit (.int .u8 37), .lit (.int .u8 16), .lit (.int .u8 46), .lit (.int .u8 35), .lit (.int .u8 44), .lit (.int .u8 21), .lit (.int .u8 52), .lit (.int .u8 32), .lit (.int .u8 23), .lit (.int .u8 11), .lit (.int .u8 54), .lit (.int .u8 26), .lit (.int .u8 40), .lit (.int .u8 15), .lit (.int .u8 34), .lit (.int .u8 20), .lit (.int .u8 31), .lit (.int .u8 10), .lit (.int .u8 25), .lit (.int .u8 14), .lit (.int .u8 19), .lit (.int .u8 9), .lit (.int .u8 13), .lit (.int .u8 8), .lit (.int .u8 7), .lit (.int .u8 6)]
def laid_spinnaker_enc_words {H : Type} : DataW H := .agg [.lit (.int .u32 0), .lit (.int .u32 55), .lit (.int .u32 23), .lit (.int .u32 111), .lit (.int .u32 103), .lit (.int .u32 99), .lit (.int .u32 4195), .lit (.int .u32 16483), .lit (.int .u32 20579), .lit (.int .u32 24675), .lit (.int .u32 28771), .lit (.int .u32 3), .lit (.int .u32 4099), .lit (.int .u32 8195), .lit (.int .u32 12291), .lit (.int .u32 16387), .lit (.int .u32 20483), .lit (.int .u32 24579), .lit (.int .u32 35), .lit (.int .u32 4131), .lit (.int .u32 8227), .lit (.int .u32 12323), .lit (.int .u32 19), .lit (.int .u32 8211), .lit (.int .u32 12307), .lit (.int .u32 16403), .lit (.int .u32 24595), .lit (.int .u32 28691), .lit (.int .u32 4115), .lit (.int .u32 20499), .lit (.int .u32 1073762323), .lit (.int .u32 27), .lit (.int .u32 4123), .lit (.int .u32 20507), .lit (.int .u32 1073762331), .lit (.int .u32 51), .lit (.int .u32 1073741875), .lit (.int .u32 4147), .lit (.int .u32 8243), .lit (.int .u32 12339), .lit (.int .u32 16435), .lit (.int .u32 20531), .lit (.int .u32 1073762355), .lit (.int .u32 24627), .lit (.int .u32 28723), .lit (.int .u32 59), .lit (.int .u32 1073741883), .lit (.int .u32 4155), .lit (.int .u32 20539), .lit (.int .u32 1073762363), .lit (.int .u32 33554483), .lit (.int .u32 33558579), .lit (.int .u32 33562675), .lit (.int .u32 33566771), .lit (.int .u32 33570867), .lit (.int .u32 33574963), .lit (.int .u32 33579059), .lit (.int .u32 33583155), .lit (.int .u32 33554491), .lit (.int .u32 33570875), .lit (.int .u32 33574971), .lit (.int .u32 33579067), .lit (.int .u32 33583163), .lit (.int .u32 15), .lit (.int .u32 115), .lit (.int .u32 1048691), .lit (.int .u32 268443695), .lit (.int .u32 402661423), .lit (.int .u32 134225967), .lit (.int .u32 8239), .lit (.int .u32 536879151), .lit (.int .u32 1610620975), .lit (.int .u32 1073750063), .lit (.int .u32 2147491887), .lit (.int .u32 2684362799), .lit (.int .u32 3221233711), .lit (.int .u32 3758104623)]
def laid_spinnaker_enc_fields {H : Type} : DataW H := .agg [.agg [.lit (.int .i64 7), .lit (.int .i64 5), .lit (.int .i64 0)], .agg [.lit (.int .i64 15), .lit (.int .i64 5), .lit (.int .i64 0)], .agg [.lit (.int .i64 20), .lit (.int .i64 5), .lit (.int .i64 0)], .agg [.lit (.int .i64 26), .lit (.int .i64 1), .lit (.int .i64 0)], .agg [.lit (.int .i64 25), .lit (.int .i64 1), .lit (.int .i64 0)], .agg [.lit (.int .i64 12), .lit (.int .i64 20), .lit (.int .i64 0)], .agg [.lit (.int .i64 31), .lit (.int .i64 1), .lit (.int .i64 20)], .agg [.lit (.int .i64 12), .lit (.int .i64 8), .lit (.int .i64 12)], .agg [.lit (.int .i64 20), .lit (.int .i64 1), .lit (.int .i64 11)], .agg [.lit (.int .i64 21), .lit (.int .i64 10), .lit (.int .i64 1)], .agg [.lit (.int .i64 20), .lit (.int .i64 12), .lit (.int .i64 0)], .agg [.lit (.int .i64 31), .lit (.int .i64 1), .lit (.int .i64 12)], .agg [.lit (.int .i64 7), .lit (.int .i64 1), .lit (.int .i64 11)], .agg [.lit (.int .i64 25), .lit (.int .i64 6), .lit (.int .i64 5)], .agg [.lit (.int .i64 8), .lit (.int .i64 4), .lit (.int .i64 1)], .agg [.lit (.int .i64 25), .lit (.int .i64 7), .lit (.int .i64 5)], .agg [.lit (.int .i64 7), .lit (.int .i64 5), .lit (.int .i64 0)], .agg [.lit (.int .i64 20), .lit (.int .i64 6), .lit (.int .i64 0)], .agg [.lit (.int .i64 20), .lit (.int .i64 5), .lit (.int .i64 0)], .agg [.lit (.int .i64 20), .lit (.int .i64 8), .lit (.int .i64 0)]]

/-- 'spinnakerlaw11.LinkImages': WHATEVER THE INPUT: true; the input reads as it did. -/
def linkImagesSpec : ChangeSpec := { name := "linkImages", fn := fun _ => fun
  | [d1, d2] => { results := [.lit (.bool true)], args := [d1, d2] }
  | _ => none }
def linkImagesRow : OpenClaim := { program := "ytilljoemebbnjaadoor", sum := "91e8f769e4c752885e969c74d8af627f82232bd4e370c0bf0f4cca2ca229c5a1", func := "spinnaker/spinnakerlaw11.LinkImages", spec := "linkImages", unfollowed := true, recurses := true, named := ["math/bits.deBruijn64tab", "spinnaker/enc.fields", "spinnaker/enc.words"], apart := false, laid := [("math/bits.deBruijn64tab", laid_math_bits_deBruijn64tab), ("spinnaker/enc.words", laid_spinnaker_enc_words), ("spinnaker/enc.fields", laid_spinnaker_enc_fields)] }
def LinkImagesSaid : Prop := linkImagesRow.holds Tryd.pinned (OpenSpec.ofChange linkImagesSpec)

/-- ITS FALSE NEIGHBOUR: 'it returns false'. Refute it at one input. -/
def linkImagesWrong : ChangeSpec := { name := "linkImages", fn := fun _ => fun
  | [d1, d2] => { results := [.lit (.bool false)], args := [d1, d2] }
  | _ => none }
def LinkImagesWrongFalsely : Prop := linkImagesRow.holds Tryd.pinned (OpenSpec.ofChange linkImagesWrong)

/-- 'spinnakerlaw11.LinkStubs': WHATEVER THE INPUT: true; the input reads as it did. -/
def linkStubsSpec : ChangeSpec := { name := "linkStubs", fn := fun _ => fun
  | [d] => { results := [.lit (.bool true)], args := [d] }
  | _ => none }
def linkStubsRow : OpenClaim := { program := "ytilljoemebbnjaadoor", sum := "91e8f769e4c752885e969c74d8af627f82232bd4e370c0bf0f4cca2ca229c5a1", func := "spinnaker/spinnakerlaw11.LinkStubs", spec := "linkStubs", unfollowed := true, recurses := true, named := ["math/bits.deBruijn64tab", "spinnaker/enc.fields", "spinnaker/enc.words"], apart := false, laid := [("math/bits.deBruijn64tab", laid_math_bits_deBruijn64tab), ("spinnaker/enc.words", laid_spinnaker_enc_words), ("spinnaker/enc.fields", laid_spinnaker_enc_fields)] }
def LinkStubsSaid : Prop := linkStubsRow.holds Tryd.pinned (OpenSpec.ofChange linkStubsSpec)

/-- ITS FALSE NEIGHBOUR: 'it returns false'. Refute it at one input. -/
def linkStubsWrong : ChangeSpec := { name := "linkStubs", fn := fun _ => fun
  | [d] => { results := [.lit (.bool false)], args := [d] }
  | _ => none }
def LinkStubsWrongFalsely : Prop := linkStubsRow.holds Tryd.pinned (OpenSpec.ofChange linkStubsWrong)

/-- 'spinnakerlaw11.LinkAlone': WHATEVER THE INPUT: true; the input reads as it did. -/
def linkAloneSpec : ChangeSpec := { name := "linkAlone", fn := fun _ => fun
  | [d1, d2] => { results := [.lit (.bool true)], args := [d1, d2] }
  | _ => none }
def linkAloneRow : OpenClaim := { program := "ytilljoemebbnjaadoor", sum := "91e8f769e4c752885e969c74d8af627f82232bd4e370c0bf0f4cca2ca229c5a1", func := "spinnaker/spinnakerlaw11.LinkAlone", spec := "linkAlone", unfollowed := true, recurses := true, named := ["math/bits.deBruijn64tab", "spinnaker/enc.fields", "spinnaker/enc.words"], apart := false, laid := [("math/bits.deBruijn64tab", laid_math_bits_deBruijn64tab), ("spinnaker/enc.words", laid_spinnaker_enc_words), ("spinnaker/enc.fields", laid_spinnaker_enc_fields)] }
def LinkAloneSaid : Prop := linkAloneRow.holds Tryd.pinned (OpenSpec.ofChange linkAloneSpec)

/-- ITS FALSE NEIGHBOUR: 'it returns false'. Refute it at one input. -/
def linkAloneWrong : ChangeSpec := { name := "linkAlone", fn := fun _ => fun
  | [d1, d2] => { results := [.lit (.bool false)], args := [d1, d2] }
  | _ => none }
def LinkAloneWrongFalsely : Prop := linkAloneRow.holds Tryd.pinned (OpenSpec.ofChange linkAloneWrong)

/- THE SECOND FORM. 'bulk': how many values and letters a reading holds, each counted each time it is reached (what is shared counts as often as it is met; a slice's spare places count too). A statement '..UptoSaid' is the law's where the arguments, and the package variables that the reading takes, are together of bulk at most 1048576: NARROWER than '..Said'. Prove '..Said' where nothing that the law and all that it calls make is longer than what came in: it says more and counts as full. Else prove '..UptoSaid'. A law counts once. -/
mutual
def uptoBulk {H : Type} : DataW H → Nat
  | .lit (.string bytes) => bytes.length + 1
  | .lit _ => 1
  | .nil => 1
  | .ptr d => uptoBulk d + 1
  | .slice elems spare => uptoBulkAll elems + uptoBulkAll spare + 1
  | .agg parts => uptoBulkAll parts + 1
  | .iface _ d => uptoBulk d + 1
  | .map entries => uptoBulkEntries entries + 1
  | .held _ => 1
def uptoBulkAll {H : Type} : List (DataW H) → Nat
  | [] => 0
  | d :: r => uptoBulk d + uptoBulkAll r
def uptoBulkEntries {H : Type} : List (Lit × DataW H) → Nat
  | [] => 0
  | x :: r => uptoBulkEntry x + uptoBulkEntries r
def uptoBulkEntry {H : Type} : Lit × DataW H → Nat
  | (.string bytes, d) => bytes.length + uptoBulk d + 1
  | (_, d) => uptoBulk d + 1
 end
def uptoSmall : (H : Type) → List (DataW H) → Bool := fun _ ds => decide (uptoBulkAll ds ≤ 1048576)
def OpenSpec.upto (s : _root_.Go.ChangeSpec) : _root_.Go.OpenSpec := { _root_.Go.OpenSpec.ofChange s with cond := some uptoSmall }

/-- 'spinnakerlaw11.LinkImages', WHERE WHAT IT READS IS OF BULK AT MOST 1048576: true; the input reads as it did. -/
def linkImagesUptoRow : OpenClaim := { program := "ytilljoemebbnjaadoor", sum := "91e8f769e4c752885e969c74d8af627f82232bd4e370c0bf0f4cca2ca229c5a1", func := "spinnaker/spinnakerlaw11.LinkImages", spec := "linkImages", unfollowed := true, recurses := true, named := ["math/bits.deBruijn64tab", "spinnaker/enc.fields", "spinnaker/enc.words"], apart := false, laid := [("math/bits.deBruijn64tab", laid_math_bits_deBruijn64tab), ("spinnaker/enc.words", laid_spinnaker_enc_words), ("spinnaker/enc.fields", laid_spinnaker_enc_fields)], narrowed := true }
def LinkImagesUptoSaid : Prop := linkImagesUptoRow.holds Tryd.pinned (OpenSpec.upto linkImagesSpec)

/-- 'spinnakerlaw11.LinkStubs', WHERE WHAT IT READS IS OF BULK AT MOST 1048576: true; the input reads as it did. -/
def linkStubsUptoRow : OpenClaim := { program := "ytilljoemebbnjaadoor", sum := "91e8f769e4c752885e969c74d8af627f82232bd4e370c0bf0f4cca2ca229c5a1", func := "spinnaker/spinnakerlaw11.LinkStubs", spec := "linkStubs", unfollowed := true, recurses := true, named := ["math/bits.deBruijn64tab", "spinnaker/enc.fields", "spinnaker/enc.words"], apart := false, laid := [("math/bits.deBruijn64tab", laid_math_bits_deBruijn64tab), ("spinnaker/enc.words", laid_spinnaker_enc_words), ("spinnaker/enc.fields", laid_spinnaker_enc_fields)], narrowed := true }
def LinkStubsUptoSaid : Prop := linkStubsUptoRow.holds Tryd.pinned (OpenSpec.upto linkStubsSpec)

/-- 'spinnakerlaw11.LinkAlone', WHERE WHAT IT READS IS OF BULK AT MOST 1048576: true; the input reads as it did. -/
def linkAloneUptoRow : OpenClaim := { program := "ytilljoemebbnjaadoor", sum := "91e8f769e4c752885e969c74d8af627f82232bd4e370c0bf0f4cca2ca229c5a1", func := "spinnaker/spinnakerlaw11.LinkAlone", spec := "linkAlone", unfollowed := true, recurses := true, named := ["math/bits.deBruijn64tab", "spinnaker/enc.fields", "spinnaker/enc.words"], apart := false, laid := [("math/bits.deBruijn64tab", laid_math_bits_deBruijn64tab), ("spinnaker/enc.words", laid_spinnaker_enc_words), ("spinnaker/enc.fields", laid_spinnaker_enc_fields)], narrowed := true }
def LinkAloneUptoSaid : Prop := linkAloneUptoRow.holds Tryd.pinned (OpenSpec.upto linkAloneSpec)

end Rows
end Go.Proofs.YtilljoemebbnjaaDoor
