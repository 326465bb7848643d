/-
  DERIVED. GIVEN WITH THE SEED: THE CARDS: each row of YtldmllmkckklhaaGreatDoorRows.lean that lists a variable, with what it lists TIED to the program's text (the seventh form; the later family's looks); each row that meets fmt, with fmt's text TOLD by the authors' own Lean function (tested against real Go, not proved from fmt's source: count such statements apart). THE CARD IS WHAT COUNTS. Prove the row's statement (the work); the ties are given (YtldmllmkckklhaaGreatDoorTie.lean); close each card by the builder's one call (the guide's Derived/Test/ToyasCard.lean, 'card_holds'). Laid BY PROGRAM, IN A SANDBOX (cutbox-door.mjs). By AI agents, Wed Nov 11 2026. No macro, syntax, notation, axiom, sorry.
-/
import Derived.Test.YtldmllmkckklhaaGreatDoorRows
import GoSem.ClaimSeven
namespace Go.Proofs.YtldmllmkckklhaaGreatDoor
namespace Rows

/-- THE TIED CARD OF 'docketlaw06.BtreePlays'. -/
def btreePlaysCard : Claim7 := { stood := { row := btreePlaysRow, standIns := [], harness := (true, "ac4af76cf3b8e4af52db42e40abbedac1ac7b61a248b9fe5ee597a171adaf90f"), looks := true }, kinds := [], alts := [], laidByText := true, laidKinds := [.data, .pinned], laidTests := true, laidLooks := .later }
def BtreePlaysCardSaid : Prop := Claim7.holds Tryz.pinned (.plain (OpenSpec.ofChange btreePlaysSpec)) btreePlaysCard

/-- THE TIED CARD OF 'docketlaw06.BtreeCopies'. -/
def btreeCopiesCard : Claim7 := { stood := { row := btreeCopiesRow, standIns := [], harness := (true, "ac4af76cf3b8e4af52db42e40abbedac1ac7b61a248b9fe5ee597a171adaf90f"), looks := true }, kinds := [], alts := [], laidByText := true, laidKinds := [.data, .pinned], laidTests := true, laidLooks := .later }
def BtreeCopiesCardSaid : Prop := Claim7.holds Tryz.pinned (.plain (OpenSpec.ofChange btreeCopiesSpec)) btreeCopiesCard

/-- THE TIED CARD OF 'docketlaw06.BtreeNone'. -/
def btreeNoneCard : Claim7 := { stood := { row := btreeNoneRow, standIns := [], harness := (true, "ac4af76cf3b8e4af52db42e40abbedac1ac7b61a248b9fe5ee597a171adaf90f"), looks := true }, kinds := [], alts := [], laidByText := true, laidKinds := [.data, .pinned], laidTests := true, laidLooks := .later }
def BtreeNoneCardSaid : Prop := Claim7.holds Tryz.pinned (.plain (OpenSpec.ofChange btreeNoneSpec)) btreeNoneCard

/-- THE TIED CARD OF 'docketlaw06.BtreeOrder'. -/
def btreeOrderCard : Claim7 := { stood := { row := btreeOrderRow, standIns := [], harness := (true, "ac4af76cf3b8e4af52db42e40abbedac1ac7b61a248b9fe5ee597a171adaf90f"), looks := true }, kinds := [], alts := [], laidByText := true, laidKinds := [.data, .pinned], laidTests := true, laidLooks := .later }
def BtreeOrderCardSaid : Prop := Claim7.holds Tryz.pinned (.plain (OpenSpec.ofChange btreeOrderSpec)) btreeOrderCard

/-- THE TIED CARD OF 'docketlaw06.BtreePages'. -/
def btreePagesCard : Claim7 := { stood := { row := btreePagesRow, standIns := [], harness := (true, "ac4af76cf3b8e4af52db42e40abbedac1ac7b61a248b9fe5ee597a171adaf90f"), looks := true }, kinds := [], alts := [], laidByText := true, laidKinds := [.data, .pinned], laidTests := true, laidLooks := .later }
def BtreePagesCardSaid : Prop := Claim7.holds Tryz.pinned (.plain (OpenSpec.ofChange btreePagesSpec)) btreePagesCard

/-- THE SECOND FORM's CARD OF 'docketlaw06.BtreePlays'. -/
def btreePlaysUptoCard : Claim7 := { stood := { row := btreePlaysUptoRow, standIns := [], harness := (true, "ac4af76cf3b8e4af52db42e40abbedac1ac7b61a248b9fe5ee597a171adaf90f"), looks := true }, kinds := [], alts := [], laidByText := true, laidKinds := [.data, .pinned], laidTests := true, laidLooks := .later }
def BtreePlaysUptoCardSaid : Prop := Claim7.holds Tryz.pinned (.plain (OpenSpec.upto btreePlaysSpec)) btreePlaysUptoCard

/-- THE SECOND FORM's CARD OF 'docketlaw06.BtreeCopies'. -/
def btreeCopiesUptoCard : Claim7 := { stood := { row := btreeCopiesUptoRow, standIns := [], harness := (true, "ac4af76cf3b8e4af52db42e40abbedac1ac7b61a248b9fe5ee597a171adaf90f"), looks := true }, kinds := [], alts := [], laidByText := true, laidKinds := [.data, .pinned], laidTests := true, laidLooks := .later }
def BtreeCopiesUptoCardSaid : Prop := Claim7.holds Tryz.pinned (.plain (OpenSpec.upto btreeCopiesSpec)) btreeCopiesUptoCard

/-- THE SECOND FORM's CARD OF 'docketlaw06.BtreeNone'. -/
def btreeNoneUptoCard : Claim7 := { stood := { row := btreeNoneUptoRow, standIns := [], harness := (true, "ac4af76cf3b8e4af52db42e40abbedac1ac7b61a248b9fe5ee597a171adaf90f"), looks := true }, kinds := [], alts := [], laidByText := true, laidKinds := [.data, .pinned], laidTests := true, laidLooks := .later }
def BtreeNoneUptoCardSaid : Prop := Claim7.holds Tryz.pinned (.plain (OpenSpec.upto btreeNoneSpec)) btreeNoneUptoCard

/-- THE SECOND FORM's CARD OF 'docketlaw06.BtreeOrder'. -/
def btreeOrderUptoCard : Claim7 := { stood := { row := btreeOrderUptoRow, standIns := [], harness := (true, "ac4af76cf3b8e4af52db42e40abbedac1ac7b61a248b9fe5ee597a171adaf90f"), looks := true }, kinds := [], alts := [], laidByText := true, laidKinds := [.data, .pinned], laidTests := true, laidLooks := .later }
def BtreeOrderUptoCardSaid : Prop := Claim7.holds Tryz.pinned (.plain (OpenSpec.upto btreeOrderSpec)) btreeOrderUptoCard

/-- THE SECOND FORM's CARD OF 'docketlaw06.BtreePages'. -/
def btreePagesUptoCard : Claim7 := { stood := { row := btreePagesUptoRow, standIns := [], harness := (true, "ac4af76cf3b8e4af52db42e40abbedac1ac7b61a248b9fe5ee597a171adaf90f"), looks := true }, kinds := [], alts := [], laidByText := true, laidKinds := [.data, .pinned], laidTests := true, laidLooks := .later }
def BtreePagesUptoCardSaid : Prop := Claim7.holds Tryz.pinned (.plain (OpenSpec.upto btreePagesSpec)) btreePagesUptoCard
end Rows
end Go.Proofs.YtldmllmkckklhaaGreatDoor
