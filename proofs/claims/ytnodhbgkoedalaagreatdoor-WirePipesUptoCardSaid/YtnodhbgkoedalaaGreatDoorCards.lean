/-
  DERIVED. GIVEN WITH THE SEED: THE CARDS: each row of YtnodhbgkoedalaaGreatDoorRows.lean that lists a variable, with what it lists TIED to the program's text (the seventh form; the later family's looks); each row that meets fmt, with fmt's text TOLD by the authors' own Lean function (tested against real Go, not proved from fmt's source: count such statements apart). THE CARD IS WHAT COUNTS. Prove the row's statement (the work); the ties are given (YtnodhbgkoedalaaGreatDoorTie.lean); close each card by the builder's one call (the guide's Derived/Test/ToyasCard.lean, 'card_holds'). Laid BY PROGRAM, IN A SANDBOX (cutbox-door.mjs). By AI agents, Wed Nov 11 2026. No macro, syntax, notation, axiom, sorry.
-/
import Derived.Test.YtnodhbgkoedalaaGreatDoorRows
import GoSem.ClaimSeven
namespace Go.Proofs.YtnodhbgkoedalaaGreatDoor
namespace Rows

/-- THE TIED CARD OF 'docketlaw11.WireFront'. -/
def wireFrontCard : Claim7 := { stood := { row := wireFrontRow, standIns := [], harness := (true, "6890c63e94482b9dd9cc9b123866aa60d7d8daab3aae0b5e175125ac3ca847f1"), looks := true }, kinds := [], alts := [], laidByText := true, laidKinds := [.data, .data, .data, .data, .sentinel, .sentinel, .pinned], laidTests := true, laidLooks := .later }
def WireFrontCardSaid : Prop := Claim7.holds Tryz.pinned (.plain (OpenSpec.ofChange wireFrontSpec)) wireFrontCard

/-- THE TIED CARD OF 'docketlaw11.WireBody'. -/
def wireBodyCard : Claim7 := { stood := { row := wireBodyRow, standIns := [], harness := (true, "6890c63e94482b9dd9cc9b123866aa60d7d8daab3aae0b5e175125ac3ca847f1"), looks := true }, kinds := [], alts := [], laidByText := true, laidKinds := [.data, .data, .data, .data, .sentinel, .sentinel, .pinned], laidTests := true, laidLooks := .later }
def WireBodyCardSaid : Prop := Claim7.holds Tryz.pinned (.plain (OpenSpec.ofChange wireBodySpec)) wireBodyCard

/-- THE TIED CARD OF 'docketlaw11.WireLimits'. -/
def wireLimitsCard : Claim7 := { stood := { row := wireLimitsRow, standIns := [], harness := (true, "6890c63e94482b9dd9cc9b123866aa60d7d8daab3aae0b5e175125ac3ca847f1"), looks := true }, kinds := [], alts := [], laidByText := true, laidKinds := [.data, .data, .data, .data, .sentinel, .sentinel, .pinned], laidTests := true, laidLooks := .later }
def WireLimitsCardSaid : Prop := Claim7.holds Tryz.pinned (.plain (OpenSpec.ofChange wireLimitsSpec)) wireLimitsCard

/-- THE TIED CARD OF 'docketlaw11.WireAgain'. -/
def wireAgainCard : Claim7 := { stood := { row := wireAgainRow, standIns := [], harness := (true, "6890c63e94482b9dd9cc9b123866aa60d7d8daab3aae0b5e175125ac3ca847f1"), looks := true }, kinds := [], alts := [], laidByText := true, laidKinds := [.data, .data, .data, .data, .sentinel, .sentinel, .pinned], laidTests := true, laidLooks := .later }
def WireAgainCardSaid : Prop := Claim7.holds Tryz.pinned (.plain (OpenSpec.ofChange wireAgainSpec)) wireAgainCard

/-- THE TIED CARD OF 'docketlaw11.WirePipes'. -/
def wirePipesCard : Claim7 := { stood := { row := wirePipesRow, standIns := [], harness := (true, "6890c63e94482b9dd9cc9b123866aa60d7d8daab3aae0b5e175125ac3ca847f1"), looks := true }, kinds := [], alts := [], laidByText := true, laidKinds := [.data, .data, .data, .data, .sentinel, .sentinel, .pinned], laidTests := true, laidLooks := .later }
def WirePipesCardSaid : Prop := Claim7.holds Tryz.pinned (.plain (OpenSpec.ofChange wirePipesSpec)) wirePipesCard

/-- THE SECOND FORM's CARD OF 'docketlaw11.WireFront'. -/
def wireFrontUptoCard : Claim7 := { stood := { row := wireFrontUptoRow, standIns := [], harness := (true, "6890c63e94482b9dd9cc9b123866aa60d7d8daab3aae0b5e175125ac3ca847f1"), looks := true }, kinds := [], alts := [], laidByText := true, laidKinds := [.data, .data, .data, .data, .sentinel, .sentinel, .pinned], laidTests := true, laidLooks := .later }
def WireFrontUptoCardSaid : Prop := Claim7.holds Tryz.pinned (.plain (OpenSpec.upto wireFrontSpec)) wireFrontUptoCard

/-- THE SECOND FORM's CARD OF 'docketlaw11.WireBody'. -/
def wireBodyUptoCard : Claim7 := { stood := { row := wireBodyUptoRow, standIns := [], harness := (true, "6890c63e94482b9dd9cc9b123866aa60d7d8daab3aae0b5e175125ac3ca847f1"), looks := true }, kinds := [], alts := [], laidByText := true, laidKinds := [.data, .data, .data, .data, .sentinel, .sentinel, .pinned], laidTests := true, laidLooks := .later }
def WireBodyUptoCardSaid : Prop := Claim7.holds Tryz.pinned (.plain (OpenSpec.upto wireBodySpec)) wireBodyUptoCard

/-- THE SECOND FORM's CARD OF 'docketlaw11.WireLimits'. -/
def wireLimitsUptoCard : Claim7 := { stood := { row := wireLimitsUptoRow, standIns := [], harness := (true, "6890c63e94482b9dd9cc9b123866aa60d7d8daab3aae0b5e175125ac3ca847f1"), looks := true }, kinds := [], alts := [], laidByText := true, laidKinds := [.data, .data, .data, .data, .sentinel, .sentinel, .pinned], laidTests := true, laidLooks := .later }
def WireLimitsUptoCardSaid : Prop := Claim7.holds Tryz.pinned (.plain (OpenSpec.upto wireLimitsSpec)) wireLimitsUptoCard

/-- THE SECOND FORM's CARD OF 'docketlaw11.WireAgain'. -/
def wireAgainUptoCard : Claim7 := { stood := { row := wireAgainUptoRow, standIns := [], harness := (true, "6890c63e94482b9dd9cc9b123866aa60d7d8daab3aae0b5e175125ac3ca847f1"), looks := true }, kinds := [], alts := [], laidByText := true, laidKinds := [.data, .data, .data, .data, .sentinel, .sentinel, .pinned], laidTests := true, laidLooks := .later }
def WireAgainUptoCardSaid : Prop := Claim7.holds Tryz.pinned (.plain (OpenSpec.upto wireAgainSpec)) wireAgainUptoCard

/-- THE SECOND FORM's CARD OF 'docketlaw11.WirePipes'. -/
def wirePipesUptoCard : Claim7 := { stood := { row := wirePipesUptoRow, standIns := [], harness := (true, "6890c63e94482b9dd9cc9b123866aa60d7d8daab3aae0b5e175125ac3ca847f1"), looks := true }, kinds := [], alts := [], laidByText := true, laidKinds := [.data, .data, .data, .data, .sentinel, .sentinel, .pinned], laidTests := true, laidLooks := .later }
def WirePipesUptoCardSaid : Prop := Claim7.holds Tryz.pinned (.plain (OpenSpec.upto wirePipesSpec)) wirePipesUptoCard
end Rows
end Go.Proofs.YtnodhbgkoedalaaGreatDoor
