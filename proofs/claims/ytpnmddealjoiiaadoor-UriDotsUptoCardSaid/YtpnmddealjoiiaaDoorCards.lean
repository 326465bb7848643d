/-
  DERIVED. GIVEN WITH THE SEED: THE CARDS: each row of YtpnmddealjoiiaaDoorRows.lean that lists a variable, with what it lists TIED to the program's text (the seventh form; the later family's looks); each row that meets fmt, with fmt's text TOLD by the authors' own Lean function (tested against real Go, not proved from fmt's source: count such statements apart). THE CARD IS WHAT COUNTS. Prove the row's statement (the work); the ties are given (YtpnmddealjoiiaaDoorTie.lean); close each card by the builder's one call (the guide's Derived/Test/ToyasCard.lean, 'card_holds'). Laid BY PROGRAM, IN A SANDBOX (cutbox-door.mjs). By AI agents, Wed Nov 11 2026. No macro, syntax, notation, axiom, sorry.
-/
import Derived.Test.YtpnmddealjoiiaaDoorRows
import GoSem.ClaimSeven
namespace Go.Proofs.YtpnmddealjoiiaaDoor
namespace Rows

/-- THE TIED CARD OF 'docketlaw09.UriParses'. -/
def uriParsesCard : Claim7 := { stood := { row := uriParsesRow, standIns := [], harness := (true, "84a003712c8099e62f49c0ceb5c5284d21d60ec805dabf8b6d12105276c8cb90"), looks := true }, kinds := [], alts := [], laidByText := true, laidKinds := [.data, .data, .data, .data, .sentinel, .sentinel, .pinned], laidTests := true, laidLooks := .later }
def UriParsesCardSaid : Prop := Claim7.holds Tryd.pinned (.plain (OpenSpec.ofChange uriParsesSpec)) uriParsesCard

/-- THE TIED CARD OF 'docketlaw09.UriTexts'. -/
def uriTextsCard : Claim7 := { stood := { row := uriTextsRow, standIns := [], harness := (true, "84a003712c8099e62f49c0ceb5c5284d21d60ec805dabf8b6d12105276c8cb90"), looks := true }, kinds := [], alts := [], laidByText := true, laidKinds := [.data, .data, .data, .data, .sentinel, .sentinel, .pinned], laidTests := true, laidLooks := .later }
def UriTextsCardSaid : Prop := Claim7.holds Tryd.pinned (.plain (OpenSpec.ofChange uriTextsSpec)) uriTextsCard

/-- THE TIED CARD OF 'docketlaw09.UriBack'. -/
def uriBackCard : Claim7 := { stood := { row := uriBackRow, standIns := [], harness := (true, "84a003712c8099e62f49c0ceb5c5284d21d60ec805dabf8b6d12105276c8cb90"), looks := true }, kinds := [], alts := [], laidByText := true, laidKinds := [.data, .data, .data, .data, .sentinel, .sentinel, .pinned], laidTests := true, laidLooks := .later }
def UriBackCardSaid : Prop := Claim7.holds Tryd.pinned (.plain (OpenSpec.ofChange uriBackSpec)) uriBackCard

/-- THE TIED CARD OF 'docketlaw09.UriDots'. -/
def uriDotsCard : Claim7 := { stood := { row := uriDotsRow, standIns := [], harness := (true, "84a003712c8099e62f49c0ceb5c5284d21d60ec805dabf8b6d12105276c8cb90"), looks := true }, kinds := [], alts := [], laidByText := true, laidKinds := [.data, .data, .data, .data, .sentinel, .sentinel, .pinned], laidTests := true, laidLooks := .later }
def UriDotsCardSaid : Prop := Claim7.holds Tryd.pinned (.plain (OpenSpec.ofChange uriDotsSpec)) uriDotsCard

/-- THE TIED CARD OF 'docketlaw09.UriOrder'. -/
def uriOrderCard : Claim7 := { stood := { row := uriOrderRow, standIns := [], harness := (true, "84a003712c8099e62f49c0ceb5c5284d21d60ec805dabf8b6d12105276c8cb90"), looks := true }, kinds := [], alts := [], laidByText := true, laidKinds := [.data, .data, .data, .data, .sentinel, .sentinel, .pinned], laidTests := true, laidLooks := .later }
def UriOrderCardSaid : Prop := Claim7.holds Tryd.pinned (.plain (OpenSpec.ofChange uriOrderSpec)) uriOrderCard

/-- THE TIED CARD OF 'docketlaw09.UriBytes'. -/
def uriBytesCard : Claim7 := { stood := { row := uriBytesRow, standIns := [], harness := (true, "84a003712c8099e62f49c0ceb5c5284d21d60ec805dabf8b6d12105276c8cb90"), looks := true }, kinds := [], alts := [], laidByText := true, laidKinds := [.data, .data, .data, .data, .sentinel, .sentinel, .pinned], laidTests := true, laidLooks := .later }
def UriBytesCardSaid : Prop := Claim7.holds Tryd.pinned (.plain (OpenSpec.ofChange uriBytesSpec)) uriBytesCard

/-- THE SECOND FORM's CARD OF 'docketlaw09.UriParses'. -/
def uriParsesUptoCard : Claim7 := { stood := { row := uriParsesUptoRow, standIns := [], harness := (true, "84a003712c8099e62f49c0ceb5c5284d21d60ec805dabf8b6d12105276c8cb90"), looks := true }, kinds := [], alts := [], laidByText := true, laidKinds := [.data, .data, .data, .data, .sentinel, .sentinel, .pinned], laidTests := true, laidLooks := .later }
def UriParsesUptoCardSaid : Prop := Claim7.holds Tryd.pinned (.plain (OpenSpec.upto uriParsesSpec)) uriParsesUptoCard

/-- THE SECOND FORM's CARD OF 'docketlaw09.UriTexts'. -/
def uriTextsUptoCard : Claim7 := { stood := { row := uriTextsUptoRow, standIns := [], harness := (true, "84a003712c8099e62f49c0ceb5c5284d21d60ec805dabf8b6d12105276c8cb90"), looks := true }, kinds := [], alts := [], laidByText := true, laidKinds := [.data, .data, .data, .data, .sentinel, .sentinel, .pinned], laidTests := true, laidLooks := .later }
def UriTextsUptoCardSaid : Prop := Claim7.holds Tryd.pinned (.plain (OpenSpec.upto uriTextsSpec)) uriTextsUptoCard

/-- THE SECOND FORM's CARD OF 'docketlaw09.UriBack'. -/
def uriBackUptoCard : Claim7 := { stood := { row := uriBackUptoRow, standIns := [], harness := (true, "84a003712c8099e62f49c0ceb5c5284d21d60ec805dabf8b6d12105276c8cb90"), looks := true }, kinds := [], alts := [], laidByText := true, laidKinds := [.data, .data, .data, .data, .sentinel, .sentinel, .pinned], laidTests := true, laidLooks := .later }
def UriBackUptoCardSaid : Prop := Claim7.holds Tryd.pinned (.plain (OpenSpec.upto uriBackSpec)) uriBackUptoCard

/-- THE SECOND FORM's CARD OF 'docketlaw09.UriDots'. -/
def uriDotsUptoCard : Claim7 := { stood := { row := uriDotsUptoRow, standIns := [], harness := (true, "84a003712c8099e62f49c0ceb5c5284d21d60ec805dabf8b6d12105276c8cb90"), looks := true }, kinds := [], alts := [], laidByText := true, laidKinds := [.data, .data, .data, .data, .sentinel, .sentinel, .pinned], laidTests := true, laidLooks := .later }
def UriDotsUptoCardSaid : Prop := Claim7.holds Tryd.pinned (.plain (OpenSpec.upto uriDotsSpec)) uriDotsUptoCard

/-- THE SECOND FORM's CARD OF 'docketlaw09.UriOrder'. -/
def uriOrderUptoCard : Claim7 := { stood := { row := uriOrderUptoRow, standIns := [], harness := (true, "84a003712c8099e62f49c0ceb5c5284d21d60ec805dabf8b6d12105276c8cb90"), looks := true }, kinds := [], alts := [], laidByText := true, laidKinds := [.data, .data, .data, .data, .sentinel, .sentinel, .pinned], laidTests := true, laidLooks := .later }
def UriOrderUptoCardSaid : Prop := Claim7.holds Tryd.pinned (.plain (OpenSpec.upto uriOrderSpec)) uriOrderUptoCard

/-- THE SECOND FORM's CARD OF 'docketlaw09.UriBytes'. -/
def uriBytesUptoCard : Claim7 := { stood := { row := uriBytesUptoRow, standIns := [], harness := (true, "84a003712c8099e62f49c0ceb5c5284d21d60ec805dabf8b6d12105276c8cb90"), looks := true }, kinds := [], alts := [], laidByText := true, laidKinds := [.data, .data, .data, .data, .sentinel, .sentinel, .pinned], laidTests := true, laidLooks := .later }
def UriBytesUptoCardSaid : Prop := Claim7.holds Tryd.pinned (.plain (OpenSpec.upto uriBytesSpec)) uriBytesUptoCard
end Rows
end Go.Proofs.YtpnmddealjoiiaaDoor
