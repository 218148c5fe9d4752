/-
  DERIVED. GIVEN WITH THE SEED: THE CARDS: each row of YtpjpcddjbebhjaaDoorRows.lean that lists a variable, with what it lists TIED to the program's text (the seventh form; the later family's looks); each row that meets fmt, with fmt's text TOLD by the authors' own Lean function (tested against real Go, not proved from fmt's source: count such statements apart). THE CARD IS WHAT COUNTS. Prove the row's statement (the work); the ties are given (YtpjpcddjbebhjaaDoorTie.lean); close each card by the builder's one call (the guide's Derived/Test/ToyasCard.lean, 'card_holds'). Laid BY PROGRAM, IN A SANDBOX (cutbox-door.mjs). By AI agents, Wed Nov 11 2026. No macro, syntax, notation, axiom, sorry.
-/
import Derived.Test.YtpjpcddjbebhjaaDoorRows
import GoSem.ClaimSeven
namespace Go.Proofs.YtpjpcddjbebhjaaDoor
namespace Rows

/-- THE TIED CARD OF 'spinnakerlaw02.RegNames'. -/
def regNamesCard : Claim7 := { stood := { row := regNamesRow, standIns := [], harness := (true, "65adb5e057f84506a39b1ae22bbcd0d44c04ee1ec82c292b4bfc9efcd5ea90c9"), looks := false }, kinds := [], alts := [], laidByText := true, laidKinds := [.data], laidTests := true, laidLooks := .later }
def RegNamesCardSaid : Prop := Claim7.holds Tryd.pinned (.plain (OpenSpec.ofChange regNamesSpec)) regNamesCard

/-- THE TIED CARD OF 'spinnakerlaw02.RegParses'. -/
def regParsesCard : Claim7 := { stood := { row := regParsesRow, standIns := [], harness := (true, "65adb5e057f84506a39b1ae22bbcd0d44c04ee1ec82c292b4bfc9efcd5ea90c9"), looks := false }, kinds := [], alts := [], laidByText := true, laidKinds := [.data], laidTests := true, laidLooks := .later }
def RegParsesCardSaid : Prop := Claim7.holds Tryd.pinned (.plain (OpenSpec.ofChange regParsesSpec)) regParsesCard

/-- THE TIED CARD OF 'spinnakerlaw02.RegSets'. -/
def regSetsCard : Claim7 := { stood := { row := regSetsRow, standIns := [], harness := (true, "65adb5e057f84506a39b1ae22bbcd0d44c04ee1ec82c292b4bfc9efcd5ea90c9"), looks := false }, kinds := [], alts := [], laidByText := true, laidKinds := [.data], laidTests := true, laidLooks := .later }
def RegSetsCardSaid : Prop := Claim7.holds Tryd.pinned (.plain (OpenSpec.ofChange regSetsSpec)) regSetsCard

/-- THE TIED CARD OF 'spinnakerlaw02.RegChanges'. -/
def regChangesCard : Claim7 := { stood := { row := regChangesRow, standIns := [], harness := (true, "65adb5e057f84506a39b1ae22bbcd0d44c04ee1ec82c292b4bfc9efcd5ea90c9"), looks := false }, kinds := [], alts := [], laidByText := true, laidKinds := [.data], laidTests := true, laidLooks := .later }
def RegChangesCardSaid : Prop := Claim7.holds Tryd.pinned (.plain (OpenSpec.ofChange regChangesSpec)) regChangesCard

/-- THE SECOND FORM's CARD OF 'spinnakerlaw02.RegNames'. -/
def regNamesUptoCard : Claim7 := { stood := { row := regNamesUptoRow, standIns := [], harness := (true, "65adb5e057f84506a39b1ae22bbcd0d44c04ee1ec82c292b4bfc9efcd5ea90c9"), looks := false }, kinds := [], alts := [], laidByText := true, laidKinds := [.data], laidTests := true, laidLooks := .later }
def RegNamesUptoCardSaid : Prop := Claim7.holds Tryd.pinned (.plain (OpenSpec.upto regNamesSpec)) regNamesUptoCard

/-- THE SECOND FORM's CARD OF 'spinnakerlaw02.RegParses'. -/
def regParsesUptoCard : Claim7 := { stood := { row := regParsesUptoRow, standIns := [], harness := (true, "65adb5e057f84506a39b1ae22bbcd0d44c04ee1ec82c292b4bfc9efcd5ea90c9"), looks := false }, kinds := [], alts := [], laidByText := true, laidKinds := [.data], laidTests := true, laidLooks := .later }
def RegParsesUptoCardSaid : Prop := Claim7.holds Tryd.pinned (.plain (OpenSpec.upto regParsesSpec)) regParsesUptoCard

/-- THE SECOND FORM's CARD OF 'spinnakerlaw02.RegSets'. -/
def regSetsUptoCard : Claim7 := { stood := { row := regSetsUptoRow, standIns := [], harness := (true, "65adb5e057f84506a39b1ae22bbcd0d44c04ee1ec82c292b4bfc9efcd5ea90c9"), looks := false }, kinds := [], alts := [], laidByText := true, laidKinds := [.data], laidTests := true, laidLooks := .later }
def RegSetsUptoCardSaid : Prop := Claim7.holds Tryd.pinned (.plain (OpenSpec.upto regSetsSpec)) regSetsUptoCard

/-- THE SECOND FORM's CARD OF 'spinnakerlaw02.RegChanges'. -/
def regChangesUptoCard : Claim7 := { stood := { row := regChangesUptoRow, standIns := [], harness := (true, "65adb5e057f84506a39b1ae22bbcd0d44c04ee1ec82c292b4bfc9efcd5ea90c9"), looks := false }, kinds := [], alts := [], laidByText := true, laidKinds := [.data], laidTests := true, laidLooks := .later }
def RegChangesUptoCardSaid : Prop := Claim7.holds Tryd.pinned (.plain (OpenSpec.upto regChangesSpec)) regChangesUptoCard
end Rows
end Go.Proofs.YtpjpcddjbebhjaaDoor
