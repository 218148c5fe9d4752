/-
  DERIVED. GIVEN WITH THE SEED: THE CARDS: each row of YtpmjfpdogbcigaaDoorRows.lean that lists a variable, with what it lists TIED to the program's text (the seventh form; the later family's looks); each row that meets fmt, with fmt's text TOLD by the authors' own Lean function (tested against real Go, not proved from fmt's source: count such statements apart). THE CARD IS WHAT COUNTS. Prove the row's statement (the work); the ties are given (YtpmjfpdogbcigaaDoorTie.lean); close each card by the builder's one call (the guide's Derived/Test/ToyasCard.lean, 'card_holds'). Laid BY PROGRAM, IN A SANDBOX (cutbox-door.mjs). By AI agents, Wed Nov 11 2026. No macro, syntax, notation, axiom, sorry.
-/
import Derived.Test.YtpmjfpdogbcigaaDoorRows
import GoSem.ClaimSeven
namespace Go.Proofs.YtpmjfpdogbcigaaDoor
namespace Rows

/-- THE TIED CARD OF 'spinnakerlaw09.UnitChecks'. -/
def unitChecksCard : Claim7 := { stood := { row := unitChecksRow, standIns := [], harness := (true, "ba05954fb670127814bae7e49e7dccb5c911513a677c64ea8f8cbfe858167715"), looks := false }, kinds := [], alts := [], laidByText := true, laidKinds := [.data], laidTests := true, laidLooks := .later }
def UnitChecksCardSaid : Prop := Claim7.holds Tryd.pinned (.plain (OpenSpec.ofChange unitChecksSpec)) unitChecksCard

/-- THE TIED CARD OF 'spinnakerlaw09.UnitLoads'. -/
def unitLoadsCard : Claim7 := { stood := { row := unitLoadsRow, standIns := [], harness := (true, "ba05954fb670127814bae7e49e7dccb5c911513a677c64ea8f8cbfe858167715"), looks := false }, kinds := [], alts := [], laidByText := true, laidKinds := [.data], laidTests := true, laidLooks := .later }
def UnitLoadsCardSaid : Prop := Claim7.holds Tryd.pinned (.plain (OpenSpec.ofChange unitLoadsSpec)) unitLoadsCard

/-- THE TIED CARD OF 'spinnakerlaw09.UnitExpands'. -/
def unitExpandsCard : Claim7 := { stood := { row := unitExpandsRow, standIns := [], harness := (true, "ba05954fb670127814bae7e49e7dccb5c911513a677c64ea8f8cbfe858167715"), looks := false }, kinds := [], alts := [], laidByText := true, laidKinds := [.data], laidTests := true, laidLooks := .later }
def UnitExpandsCardSaid : Prop := Claim7.holds Tryd.pinned (.plain (OpenSpec.ofChange unitExpandsSpec)) unitExpandsCard

/-- THE SECOND FORM's CARD OF 'spinnakerlaw09.UnitChecks'. -/
def unitChecksUptoCard : Claim7 := { stood := { row := unitChecksUptoRow, standIns := [], harness := (true, "ba05954fb670127814bae7e49e7dccb5c911513a677c64ea8f8cbfe858167715"), looks := false }, kinds := [], alts := [], laidByText := true, laidKinds := [.data], laidTests := true, laidLooks := .later }
def UnitChecksUptoCardSaid : Prop := Claim7.holds Tryd.pinned (.plain (OpenSpec.upto unitChecksSpec)) unitChecksUptoCard

/-- THE SECOND FORM's CARD OF 'spinnakerlaw09.UnitLoads'. -/
def unitLoadsUptoCard : Claim7 := { stood := { row := unitLoadsUptoRow, standIns := [], harness := (true, "ba05954fb670127814bae7e49e7dccb5c911513a677c64ea8f8cbfe858167715"), looks := false }, kinds := [], alts := [], laidByText := true, laidKinds := [.data], laidTests := true, laidLooks := .later }
def UnitLoadsUptoCardSaid : Prop := Claim7.holds Tryd.pinned (.plain (OpenSpec.upto unitLoadsSpec)) unitLoadsUptoCard

/-- THE SECOND FORM's CARD OF 'spinnakerlaw09.UnitExpands'. -/
def unitExpandsUptoCard : Claim7 := { stood := { row := unitExpandsUptoRow, standIns := [], harness := (true, "ba05954fb670127814bae7e49e7dccb5c911513a677c64ea8f8cbfe858167715"), looks := false }, kinds := [], alts := [], laidByText := true, laidKinds := [.data], laidTests := true, laidLooks := .later }
def UnitExpandsUptoCardSaid : Prop := Claim7.holds Tryd.pinned (.plain (OpenSpec.upto unitExpandsSpec)) unitExpandsUptoCard
end Rows
end Go.Proofs.YtpmjfpdogbcigaaDoor
