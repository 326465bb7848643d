/-
  DERIVED. GIVEN WITH THE SEED: THE CARDS: each row of YtnogmgnbhcmajaaDoorRows.lean that lists a variable, with what it lists TIED to the program's text (the seventh form; the later family's looks); each row that meets fmt, with fmt's text TOLD by the authors' own Lean function (tested against real Go, not proved from fmt's source: count such statements apart). THE CARD IS WHAT COUNTS. Prove the row's statement (the work); the ties are given (YtnogmgnbhcmajaaDoorTie.lean); close each card by the builder's one call (the guide's Derived/Test/ToyasCard.lean, 'card_holds'). Laid BY PROGRAM, IN A SANDBOX (cutbox-door.mjs). By AI agents, Wed Nov 11 2026. No macro, syntax, notation, axiom, sorry.
-/
import Derived.Test.YtnogmgnbhcmajaaDoorRows
import GoSem.ClaimSeven
namespace Go.Proofs.YtnogmgnbhcmajaaDoor
namespace Rows

/-- THE TIED CARD OF 'docketlaw06.BtreeMem'. -/
def btreeMemCard : Claim7 := { stood := { row := btreeMemRow, standIns := [], harness := (true, "5135982af7feca70d68324b032f89d866f616ff45f7a69683e5ccdf40af90a7f"), looks := true }, kinds := [], alts := [], laidByText := true, laidKinds := [.data, .pinned], laidTests := true, laidLooks := .later }
def BtreeMemCardSaid : Prop := Claim7.holds Tryd.pinned (.plain (OpenSpec.ofChange btreeMemSpec)) btreeMemCard

/-- THE SECOND FORM's CARD OF 'docketlaw06.BtreeMem'. -/
def btreeMemUptoCard : Claim7 := { stood := { row := btreeMemUptoRow, standIns := [], harness := (true, "5135982af7feca70d68324b032f89d866f616ff45f7a69683e5ccdf40af90a7f"), looks := true }, kinds := [], alts := [], laidByText := true, laidKinds := [.data, .pinned], laidTests := true, laidLooks := .later }
def BtreeMemUptoCardSaid : Prop := Claim7.holds Tryd.pinned (.plain (OpenSpec.upto btreeMemSpec)) btreeMemUptoCard
end Rows
end Go.Proofs.YtnogmgnbhcmajaaDoor
