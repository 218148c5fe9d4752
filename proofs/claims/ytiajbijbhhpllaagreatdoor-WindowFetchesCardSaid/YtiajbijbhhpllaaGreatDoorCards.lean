/-
  DERIVED. GIVEN WITH THE SEED: THE CARDS: each row of YtiajbijbhhpllaaGreatDoorRows.lean that lists a variable, with what it lists TIED to the program's text (the seventh form; the later family's looks); each row that meets fmt, with fmt's text TOLD by the authors' own Lean function (tested against real Go, not proved from fmt's source: count such statements apart). THE CARD IS WHAT COUNTS. Prove the row's statement (the work); the ties are given (YtiajbijbhhpllaaGreatDoorTie.lean); close each card by the builder's one call (the guide's Derived/Test/ToyasCard.lean, 'card_holds'). Laid BY PROGRAM, IN A SANDBOX (cutbox-door.mjs). By AI agents, Wed Nov 11 2026. No macro, syntax, notation, axiom, sorry.
-/
import Derived.Test.YtiajbijbhhpllaaGreatDoorRows
import GoSem.ClaimSeven
namespace Go.Proofs.YtiajbijbhhpllaaGreatDoor
namespace Rows

/-- THE TIED CARD OF 'spinnakerlaw19.WindowFetches'. -/
def windowFetchesCard : Claim7 := { stood := { row := windowFetchesRow, standIns := [], harness := (true, "4499053f6bf0fbc217d0ce0288b56b9614774236e416c00f2a49f1b70af2b0dc"), looks := false }, kinds := [], alts := [], laidByText := true, laidKinds := [.data, .data, .data, .data, .data, .data, .data, .data, .data, .data, .data, .data, .data], laidTests := true, laidLooks := .later }
def WindowFetchesCardSaid : Prop := Claim7.holds Tryz.pinned (.plain (OpenSpec.ofChange windowFetchesSpec)) windowFetchesCard

/-- THE TIED CARD OF 'spinnakerlaw19.WindowDoes'. -/
def windowDoesCard : Claim7 := { stood := { row := windowDoesRow, standIns := [], harness := (true, "4499053f6bf0fbc217d0ce0288b56b9614774236e416c00f2a49f1b70af2b0dc"), looks := false }, kinds := [], alts := [], laidByText := true, laidKinds := [.data, .data, .data, .data, .data, .data, .data, .data, .data, .data, .data, .data, .data], laidTests := true, laidLooks := .later }
def WindowDoesCardSaid : Prop := Claim7.holds Tryz.pinned (.plain (OpenSpec.ofChange windowDoesSpec)) windowDoesCard

/-- THE TIED CARD OF 'spinnakerlaw19.WindowOrders'. -/
def windowOrdersCard : Claim7 := { stood := { row := windowOrdersRow, standIns := [], harness := (true, "4499053f6bf0fbc217d0ce0288b56b9614774236e416c00f2a49f1b70af2b0dc"), looks := false }, kinds := [], alts := [], laidByText := true, laidKinds := [.data, .data, .data, .data, .data, .data, .data, .data, .data, .data, .data, .data, .data], laidTests := true, laidLooks := .later }
def WindowOrdersCardSaid : Prop := Claim7.holds Tryz.pinned (.plain (OpenSpec.ofChange windowOrdersSpec)) windowOrdersCard

/-- THE SECOND FORM's CARD OF 'spinnakerlaw19.WindowFetches'. -/
def windowFetchesUptoCard : Claim7 := { stood := { row := windowFetchesUptoRow, standIns := [], harness := (true, "4499053f6bf0fbc217d0ce0288b56b9614774236e416c00f2a49f1b70af2b0dc"), looks := false }, kinds := [], alts := [], laidByText := true, laidKinds := [.data, .data, .data, .data, .data, .data, .data, .data, .data, .data, .data, .data, .data], laidTests := true, laidLooks := .later }
def WindowFetchesUptoCardSaid : Prop := Claim7.holds Tryz.pinned (.plain (OpenSpec.upto windowFetchesSpec)) windowFetchesUptoCard

/-- THE SECOND FORM's CARD OF 'spinnakerlaw19.WindowDoes'. -/
def windowDoesUptoCard : Claim7 := { stood := { row := windowDoesUptoRow, standIns := [], harness := (true, "4499053f6bf0fbc217d0ce0288b56b9614774236e416c00f2a49f1b70af2b0dc"), looks := false }, kinds := [], alts := [], laidByText := true, laidKinds := [.data, .data, .data, .data, .data, .data, .data, .data, .data, .data, .data, .data, .data], laidTests := true, laidLooks := .later }
def WindowDoesUptoCardSaid : Prop := Claim7.holds Tryz.pinned (.plain (OpenSpec.upto windowDoesSpec)) windowDoesUptoCard

/-- THE SECOND FORM's CARD OF 'spinnakerlaw19.WindowOrders'. -/
def windowOrdersUptoCard : Claim7 := { stood := { row := windowOrdersUptoRow, standIns := [], harness := (true, "4499053f6bf0fbc217d0ce0288b56b9614774236e416c00f2a49f1b70af2b0dc"), looks := false }, kinds := [], alts := [], laidByText := true, laidKinds := [.data, .data, .data, .data, .data, .data, .data, .data, .data, .data, .data, .data, .data], laidTests := true, laidLooks := .later }
def WindowOrdersUptoCardSaid : Prop := Claim7.holds Tryz.pinned (.plain (OpenSpec.upto windowOrdersSpec)) windowOrdersUptoCard
end Rows
end Go.Proofs.YtiajbijbhhpllaaGreatDoor
