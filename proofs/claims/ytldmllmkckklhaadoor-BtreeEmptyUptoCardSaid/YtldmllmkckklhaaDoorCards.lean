/-
  DERIVED. GIVEN WITH THE SEED: THE CARDS: each row of YtldmllmkckklhaaDoorRows.lean that lists a variable, with what it lists TIED to the program's text (the seventh form; the later family's looks); each row that meets fmt, with fmt's text TOLD by the authors' own Lean function (tested against real Go, not proved from fmt's source: count such statements apart). THE CARD IS WHAT COUNTS. Prove the row's statement (the work); the ties are given (YtldmllmkckklhaaDoorTie.lean); close each card by the builder's one call (the guide's Derived/Test/ToyasCard.lean, 'card_holds'). Laid BY PROGRAM, IN A SANDBOX (cutbox-door.mjs). By AI agents, Wed Nov 11 2026. No macro, syntax, notation, axiom, sorry.
-/
import Derived.Test.YtldmllmkckklhaaDoorRows
import GoSem.ClaimSeven
namespace Go.Proofs.YtldmllmkckklhaaDoor
namespace Rows

/-- THE TIED CARD OF 'docketlaw06.BtreeMem'. -/
def btreeMemCard : Claim7 := { stood := { row := btreeMemRow, standIns := [], harness := (true, "340d63649f49043e53449c4011166255ba746dfa6741efec6b22568d2893d1f5"), looks := true }, kinds := [], alts := [], laidByText := true, laidKinds := [.data, .pinned], laidTests := true, laidLooks := .later }
def BtreeMemCardSaid : Prop := Claim7.holds Tryd.pinned (.plain (OpenSpec.ofChange btreeMemSpec)) btreeMemCard

/-- THE TIED CARD OF 'docketlaw06.BtreeEmpty'. -/
def btreeEmptyCard : Claim7 := { stood := { row := btreeEmptyRow, standIns := [], harness := (true, "340d63649f49043e53449c4011166255ba746dfa6741efec6b22568d2893d1f5"), looks := true }, kinds := [], alts := [], laidByText := true, laidKinds := [.data, .pinned], laidTests := true, laidLooks := .later }
def BtreeEmptyCardSaid : Prop := Claim7.holds Tryd.pinned (.plain (OpenSpec.ofChange btreeEmptySpec)) btreeEmptyCard

/-- THE SECOND FORM's CARD OF 'docketlaw06.BtreeMem'. -/
def btreeMemUptoCard : Claim7 := { stood := { row := btreeMemUptoRow, standIns := [], harness := (true, "340d63649f49043e53449c4011166255ba746dfa6741efec6b22568d2893d1f5"), looks := true }, kinds := [], alts := [], laidByText := true, laidKinds := [.data, .pinned], laidTests := true, laidLooks := .later }
def BtreeMemUptoCardSaid : Prop := Claim7.holds Tryd.pinned (.plain (OpenSpec.upto btreeMemSpec)) btreeMemUptoCard

/-- THE SECOND FORM's CARD OF 'docketlaw06.BtreeEmpty'. -/
def btreeEmptyUptoCard : Claim7 := { stood := { row := btreeEmptyUptoRow, standIns := [], harness := (true, "340d63649f49043e53449c4011166255ba746dfa6741efec6b22568d2893d1f5"), looks := true }, kinds := [], alts := [], laidByText := true, laidKinds := [.data, .pinned], laidTests := true, laidLooks := .later }
def BtreeEmptyUptoCardSaid : Prop := Claim7.holds Tryd.pinned (.plain (OpenSpec.upto btreeEmptySpec)) btreeEmptyUptoCard
end Rows
end Go.Proofs.YtldmllmkckklhaaDoor
