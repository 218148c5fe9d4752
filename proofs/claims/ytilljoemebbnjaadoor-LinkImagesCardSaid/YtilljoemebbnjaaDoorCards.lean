/-
  DERIVED. GIVEN WITH THE SEED: THE CARDS: each row of YtilljoemebbnjaaDoorRows.lean that lists a variable, with what it lists TIED to the program's text (the seventh form; the later family's looks); each row that meets fmt, with fmt's text TOLD by the authors' own Lean function (tested against real Go, not proved from fmt's source: count such statements apart). THE CARD IS WHAT COUNTS. Prove the row's statement (the work); the ties are given (YtilljoemebbnjaaDoorTie.lean); close each card by the builder's one call (the guide's Derived/Test/ToyasCard.lean, 'card_holds'). Laid BY PROGRAM, IN A SANDBOX (cutbox-door.mjs). By AI agents, Wed Nov 11 2026. No macro, syntax, notation, axiom, sorry.
-/
import Derived.Test.YtilljoemebbnjaaDoorRows
import GoSem.ClaimSeven
namespace Go.Proofs.YtilljoemebbnjaaDoor
namespace Rows

/-- THE TIED CARD OF 'spinnakerlaw11.LinkImages'. -/
def linkImagesCard : Claim7 := { stood := { row := linkImagesRow, standIns := [], harness := (true, "fa1854d58c3d92c5efd1c03357c275bb0b9465a65bf22c9257758130ae8cb177"), looks := false }, kinds := [], alts := [], laidByText := true, laidKinds := [.data, .data, .data], laidTests := true, laidLooks := .later }
def LinkImagesCardSaid : Prop := Claim7.holds Tryd.pinned (.plain (OpenSpec.ofChange linkImagesSpec)) linkImagesCard

/-- THE TIED CARD OF 'spinnakerlaw11.LinkStubs'. -/
def linkStubsCard : Claim7 := { stood := { row := linkStubsRow, standIns := [], harness := (true, "fa1854d58c3d92c5efd1c03357c275bb0b9465a65bf22c9257758130ae8cb177"), looks := false }, kinds := [], alts := [], laidByText := true, laidKinds := [.data, .data, .data], laidTests := true, laidLooks := .later }
def LinkStubsCardSaid : Prop := Claim7.holds Tryd.pinned (.plain (OpenSpec.ofChange linkStubsSpec)) linkStubsCard

/-- THE TIED CARD OF 'spinnakerlaw11.LinkAlone'. -/
def linkAloneCard : Claim7 := { stood := { row := linkAloneRow, standIns := [], harness := (true, "fa1854d58c3d92c5efd1c03357c275bb0b9465a65bf22c9257758130ae8cb177"), looks := false }, kinds := [], alts := [], laidByText := true, laidKinds := [.data, .data, .data], laidTests := true, laidLooks := .later }
def LinkAloneCardSaid : Prop := Claim7.holds Tryd.pinned (.plain (OpenSpec.ofChange linkAloneSpec)) linkAloneCard

/-- THE SECOND FORM's CARD OF 'spinnakerlaw11.LinkImages'. -/
def linkImagesUptoCard : Claim7 := { stood := { row := linkImagesUptoRow, standIns := [], harness := (true, "fa1854d58c3d92c5efd1c03357c275bb0b9465a65bf22c9257758130ae8cb177"), looks := false }, kinds := [], alts := [], laidByText := true, laidKinds := [.data, .data, .data], laidTests := true, laidLooks := .later }
def LinkImagesUptoCardSaid : Prop := Claim7.holds Tryd.pinned (.plain (OpenSpec.upto linkImagesSpec)) linkImagesUptoCard

/-- THE SECOND FORM's CARD OF 'spinnakerlaw11.LinkStubs'. -/
def linkStubsUptoCard : Claim7 := { stood := { row := linkStubsUptoRow, standIns := [], harness := (true, "fa1854d58c3d92c5efd1c03357c275bb0b9465a65bf22c9257758130ae8cb177"), looks := false }, kinds := [], alts := [], laidByText := true, laidKinds := [.data, .data, .data], laidTests := true, laidLooks := .later }
def LinkStubsUptoCardSaid : Prop := Claim7.holds Tryd.pinned (.plain (OpenSpec.upto linkStubsSpec)) linkStubsUptoCard

/-- THE SECOND FORM's CARD OF 'spinnakerlaw11.LinkAlone'. -/
def linkAloneUptoCard : Claim7 := { stood := { row := linkAloneUptoRow, standIns := [], harness := (true, "fa1854d58c3d92c5efd1c03357c275bb0b9465a65bf22c9257758130ae8cb177"), looks := false }, kinds := [], alts := [], laidByText := true, laidKinds := [.data, .data, .data], laidTests := true, laidLooks := .later }
def LinkAloneUptoCardSaid : Prop := Claim7.holds Tryd.pinned (.plain (OpenSpec.upto linkAloneSpec)) linkAloneUptoCard
end Rows
end Go.Proofs.YtilljoemebbnjaaDoor
