/-
  DERIVED. GIVEN WITH THE SEED: THE CARDS: each row of YteefjmdallpihaaGreatDoorRows.lean that lists a variable, with what it lists TIED to the program's text (the seventh form; the later family's looks); each row that meets fmt, with fmt's text TOLD by the authors' own Lean function (tested against real Go, not proved from fmt's source: count such statements apart). THE CARD IS WHAT COUNTS. Prove the row's statement (the work); the ties are given (YteefjmdallpihaaGreatDoorTie.lean); close each card by the builder's one call (the guide's Derived/Test/ToyasCard.lean, 'card_holds'). Laid BY PROGRAM, IN A SANDBOX (cutbox-door.mjs). By AI agents, Wed Nov 11 2026. No macro, syntax, notation, axiom, sorry.
-/
import Derived.Test.YteefjmdallpihaaGreatDoorRows
import GoSem.ClaimSeven
namespace Go.Proofs.YteefjmdallpihaaGreatDoor
namespace Rows

/-- THE TIED CARD OF 'docketlaw10.XmlNests'. -/
def xmlNestsCard : Claim7 := { stood := { row := xmlNestsRow, standIns := [], harness := (true, "427c97af1b552b674decb10c915a4eca58357d73f686d878279bdb8c166481ce"), looks := true }, kinds := [], alts := [], laidByText := true, laidKinds := [.data, .data, .data, .data, .sentinel, .sentinel, .data, .data, .pinned, .pinned], laidTests := true, laidLooks := .later }
def XmlNestsCardSaid : Prop := Claim7.holds Tryz.pinned (.plain (OpenSpec.ofChange xmlNestsSpec)) xmlNestsCard

/-- THE TIED CARD OF 'docketlaw10.XmlNoise'. -/
def xmlNoiseCard : Claim7 := { stood := { row := xmlNoiseRow, standIns := [], harness := (true, "427c97af1b552b674decb10c915a4eca58357d73f686d878279bdb8c166481ce"), looks := true }, kinds := [], alts := [], laidByText := true, laidKinds := [.data, .data, .data, .data, .sentinel, .sentinel, .data, .data, .pinned, .pinned], laidTests := true, laidLooks := .later }
def XmlNoiseCardSaid : Prop := Claim7.holds Tryz.pinned (.plain (OpenSpec.ofChange xmlNoiseSpec)) xmlNoiseCard

/-- THE TIED CARD OF 'docketlaw10.XmlText'. -/
def xmlTextCard : Claim7 := { stood := { row := xmlTextRow, standIns := [], harness := (true, "427c97af1b552b674decb10c915a4eca58357d73f686d878279bdb8c166481ce"), looks := true }, kinds := [], alts := [], laidByText := true, laidKinds := [.data, .data, .data, .data, .sentinel, .sentinel, .data, .data, .pinned, .pinned], laidTests := true, laidLooks := .later }
def XmlTextCardSaid : Prop := Claim7.holds Tryz.pinned (.plain (OpenSpec.ofChange xmlTextSpec)) xmlTextCard

/-- THE TIED CARD OF 'docketlaw10.XmlPrefix'. -/
def xmlPrefixCard : Claim7 := { stood := { row := xmlPrefixRow, standIns := [], harness := (true, "427c97af1b552b674decb10c915a4eca58357d73f686d878279bdb8c166481ce"), looks := true }, kinds := [], alts := [], laidByText := true, laidKinds := [.data, .data, .data, .data, .sentinel, .sentinel, .data, .data, .pinned, .pinned], laidTests := true, laidLooks := .later }
def XmlPrefixCardSaid : Prop := Claim7.holds Tryz.pinned (.plain (OpenSpec.ofChange xmlPrefixSpec)) xmlPrefixCard

/-- THE SECOND FORM's CARD OF 'docketlaw10.XmlNests'. -/
def xmlNestsUptoCard : Claim7 := { stood := { row := xmlNestsUptoRow, standIns := [], harness := (true, "427c97af1b552b674decb10c915a4eca58357d73f686d878279bdb8c166481ce"), looks := true }, kinds := [], alts := [], laidByText := true, laidKinds := [.data, .data, .data, .data, .sentinel, .sentinel, .data, .data, .pinned, .pinned], laidTests := true, laidLooks := .later }
def XmlNestsUptoCardSaid : Prop := Claim7.holds Tryz.pinned (.plain (OpenSpec.upto xmlNestsSpec)) xmlNestsUptoCard

/-- THE SECOND FORM's CARD OF 'docketlaw10.XmlNoise'. -/
def xmlNoiseUptoCard : Claim7 := { stood := { row := xmlNoiseUptoRow, standIns := [], harness := (true, "427c97af1b552b674decb10c915a4eca58357d73f686d878279bdb8c166481ce"), looks := true }, kinds := [], alts := [], laidByText := true, laidKinds := [.data, .data, .data, .data, .sentinel, .sentinel, .data, .data, .pinned, .pinned], laidTests := true, laidLooks := .later }
def XmlNoiseUptoCardSaid : Prop := Claim7.holds Tryz.pinned (.plain (OpenSpec.upto xmlNoiseSpec)) xmlNoiseUptoCard

/-- THE SECOND FORM's CARD OF 'docketlaw10.XmlText'. -/
def xmlTextUptoCard : Claim7 := { stood := { row := xmlTextUptoRow, standIns := [], harness := (true, "427c97af1b552b674decb10c915a4eca58357d73f686d878279bdb8c166481ce"), looks := true }, kinds := [], alts := [], laidByText := true, laidKinds := [.data, .data, .data, .data, .sentinel, .sentinel, .data, .data, .pinned, .pinned], laidTests := true, laidLooks := .later }
def XmlTextUptoCardSaid : Prop := Claim7.holds Tryz.pinned (.plain (OpenSpec.upto xmlTextSpec)) xmlTextUptoCard

/-- THE SECOND FORM's CARD OF 'docketlaw10.XmlPrefix'. -/
def xmlPrefixUptoCard : Claim7 := { stood := { row := xmlPrefixUptoRow, standIns := [], harness := (true, "427c97af1b552b674decb10c915a4eca58357d73f686d878279bdb8c166481ce"), looks := true }, kinds := [], alts := [], laidByText := true, laidKinds := [.data, .data, .data, .data, .sentinel, .sentinel, .data, .data, .pinned, .pinned], laidTests := true, laidLooks := .later }
def XmlPrefixUptoCardSaid : Prop := Claim7.holds Tryz.pinned (.plain (OpenSpec.upto xmlPrefixSpec)) xmlPrefixUptoCard
end Rows
end Go.Proofs.YteefjmdallpihaaGreatDoor
