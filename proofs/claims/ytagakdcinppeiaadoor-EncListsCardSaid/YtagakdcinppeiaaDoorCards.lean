/-
  DERIVED. GIVEN WITH THE SEED: THE CARDS: each row of YtagakdcinppeiaaDoorRows.lean that lists a variable, with what it lists TIED to the program's text (the seventh form; the later family's looks); each row that meets fmt, with fmt's text TOLD by the authors' own Lean function (tested against real Go, not proved from fmt's source: count such statements apart). THE CARD IS WHAT COUNTS. Prove the row's statement (the work); the ties are given (YtagakdcinppeiaaDoorTie.lean); close each card by the builder's one call (the guide's Derived/Test/ToyasCard.lean, 'card_holds'). Laid BY PROGRAM, IN A SANDBOX (cutbox-door.mjs). By AI agents, Wed Nov 11 2026. No macro, syntax, notation, axiom, sorry.
-/
import Derived.Test.YtagakdcinppeiaaDoorRows
import GoSem.ClaimSeven
namespace Go.Proofs.YtagakdcinppeiaaDoor
namespace Rows

/-- THE TIED CARD OF 'spinnakerlaw04.EncWords'. -/
def encWordsCard : Claim7 := { stood := { row := encWordsRow, standIns := [], harness := (true, "dd0c94f7f71c50aac8bcdf771d863cb6107520c80d3edac016542e29a07c3a12"), looks := false }, kinds := [], alts := [], laidByText := true, laidKinds := [.data, .data], laidTests := true, laidLooks := .later }
def EncWordsCardSaid : Prop := Claim7.holds Tryd.pinned (.plain (OpenSpec.ofChange encWordsSpec)) encWordsCard

/-- THE TIED CARD OF 'spinnakerlaw04.EncApart'. -/
def encApartCard : Claim7 := { stood := { row := encApartRow, standIns := [], harness := (true, "dd0c94f7f71c50aac8bcdf771d863cb6107520c80d3edac016542e29a07c3a12"), looks := false }, kinds := [], alts := [], laidByText := true, laidKinds := [.data, .data], laidTests := true, laidLooks := .later }
def EncApartCardSaid : Prop := Claim7.holds Tryd.pinned (.plain (OpenSpec.ofChange encApartSpec)) encApartCard

/-- THE TIED CARD OF 'spinnakerlaw04.EncLists'. -/
def encListsCard : Claim7 := { stood := { row := encListsRow, standIns := [], harness := (true, "dd0c94f7f71c50aac8bcdf771d863cb6107520c80d3edac016542e29a07c3a12"), looks := false }, kinds := [], alts := [], laidByText := true, laidKinds := [.data, .data], laidTests := true, laidLooks := .later }
def EncListsCardSaid : Prop := Claim7.holds Tryd.pinned (.plain (OpenSpec.ofChange encListsSpec)) encListsCard

/-- THE SECOND FORM's CARD OF 'spinnakerlaw04.EncWords'. -/
def encWordsUptoCard : Claim7 := { stood := { row := encWordsUptoRow, standIns := [], harness := (true, "dd0c94f7f71c50aac8bcdf771d863cb6107520c80d3edac016542e29a07c3a12"), looks := false }, kinds := [], alts := [], laidByText := true, laidKinds := [.data, .data], laidTests := true, laidLooks := .later }
def EncWordsUptoCardSaid : Prop := Claim7.holds Tryd.pinned (.plain (OpenSpec.upto encWordsSpec)) encWordsUptoCard

/-- THE SECOND FORM's CARD OF 'spinnakerlaw04.EncApart'. -/
def encApartUptoCard : Claim7 := { stood := { row := encApartUptoRow, standIns := [], harness := (true, "dd0c94f7f71c50aac8bcdf771d863cb6107520c80d3edac016542e29a07c3a12"), looks := false }, kinds := [], alts := [], laidByText := true, laidKinds := [.data, .data], laidTests := true, laidLooks := .later }
def EncApartUptoCardSaid : Prop := Claim7.holds Tryd.pinned (.plain (OpenSpec.upto encApartSpec)) encApartUptoCard

/-- THE SECOND FORM's CARD OF 'spinnakerlaw04.EncLists'. -/
def encListsUptoCard : Claim7 := { stood := { row := encListsUptoRow, standIns := [], harness := (true, "dd0c94f7f71c50aac8bcdf771d863cb6107520c80d3edac016542e29a07c3a12"), looks := false }, kinds := [], alts := [], laidByText := true, laidKinds := [.data, .data], laidTests := true, laidLooks := .later }
def EncListsUptoCardSaid : Prop := Claim7.holds Tryd.pinned (.plain (OpenSpec.upto encListsSpec)) encListsUptoCard
end Rows
end Go.Proofs.YtagakdcinppeiaaDoor
