/-
  DERIVED. GIVEN WITH THE SEED: THE CARDS: each row of YtimgongaenpgkaaDoorRows.lean that lists a variable, with what it lists TIED to the program's text (the seventh form; the later family's looks); each row that meets fmt, with fmt's text TOLD by the authors' own Lean function (tested against real Go, not proved from fmt's source: count such statements apart). THE CARD IS WHAT COUNTS. Prove the row's statement (the work); the ties are given (YtimgongaenpgkaaDoorTie.lean); close each card by the builder's one call (the guide's Derived/Test/ToyasCard.lean, 'card_holds'). Laid BY PROGRAM, IN A SANDBOX (cutbox-door.mjs). By AI agents, Wed Nov 11 2026. No macro, syntax, notation, axiom, sorry.
-/
import Derived.Test.YtimgongaenpgkaaDoorRows
import GoSem.ClaimSeven
namespace Go.Proofs.YtimgongaenpgkaaDoor
namespace Rows

/-- THE TIED CARD OF 'spinnakerlaw08.ImagePlaces'. -/
def imagePlacesCard : Claim7 := { stood := { row := imagePlacesRow, standIns := [], harness := (true, "c162d6cf39c32085a32c3b2f6de2985710abc8d3fabaf663933b86dde05bae13"), looks := false }, kinds := [], alts := [], laidByText := true, laidKinds := [.data, .data, .data, .data, .data, .data, .data, .data, .data, .data, .data, .data, .data], laidTests := true, laidLooks := .later }
def ImagePlacesCardSaid : Prop := Claim7.holds Tryd.pinned (.plain (OpenSpec.ofChange imagePlacesSpec)) imagePlacesCard

/-- THE TIED CARD OF 'spinnakerlaw08.ImageAddresses'. -/
def imageAddressesCard : Claim7 := { stood := { row := imageAddressesRow, standIns := [], harness := (true, "c162d6cf39c32085a32c3b2f6de2985710abc8d3fabaf663933b86dde05bae13"), looks := false }, kinds := [], alts := [], laidByText := true, laidKinds := [.data, .data, .data, .data, .data, .data, .data, .data, .data, .data, .data, .data, .data], laidTests := true, laidLooks := .later }
def ImageAddressesCardSaid : Prop := Claim7.holds Tryd.pinned (.plain (OpenSpec.ofChange imageAddressesSpec)) imageAddressesCard

/-- THE SECOND FORM's CARD OF 'spinnakerlaw08.ImagePlaces'. -/
def imagePlacesUptoCard : Claim7 := { stood := { row := imagePlacesUptoRow, standIns := [], harness := (true, "c162d6cf39c32085a32c3b2f6de2985710abc8d3fabaf663933b86dde05bae13"), looks := false }, kinds := [], alts := [], laidByText := true, laidKinds := [.data, .data, .data, .data, .data, .data, .data, .data, .data, .data, .data, .data, .data], laidTests := true, laidLooks := .later }
def ImagePlacesUptoCardSaid : Prop := Claim7.holds Tryd.pinned (.plain (OpenSpec.upto imagePlacesSpec)) imagePlacesUptoCard

/-- THE SECOND FORM's CARD OF 'spinnakerlaw08.ImageAddresses'. -/
def imageAddressesUptoCard : Claim7 := { stood := { row := imageAddressesUptoRow, standIns := [], harness := (true, "c162d6cf39c32085a32c3b2f6de2985710abc8d3fabaf663933b86dde05bae13"), looks := false }, kinds := [], alts := [], laidByText := true, laidKinds := [.data, .data, .data, .data, .data, .data, .data, .data, .data, .data, .data, .data, .data], laidTests := true, laidLooks := .later }
def ImageAddressesUptoCardSaid : Prop := Claim7.holds Tryd.pinned (.plain (OpenSpec.upto imageAddressesSpec)) imageAddressesUptoCard
end Rows
end Go.Proofs.YtimgongaenpgkaaDoor
