/-
  No cell of these rows narrows 'for every input' (looked for: loops, veiled, ifaces, maps, wideKeys, modest, calm, conditions, laid).
  DERIVED. THE GIVEN ROWS OF THIS SEAT. 3 by the template 'for every input the law returns true; each argument reads behind the call as it read before'; 0 by the template 'total and deterministic' (their statements: YtlofpbmceipkkaaTotals.lean).
  GIVEN WITH THE SEED: the statements are not yours to turn. If you find one false, say at which input.
  Laid BY PROGRAM, IN A SANDBOX (cutbox-rows.mjs): the forced cells as the released guide's own fill.sh prints them over the translation f4cb3daf61b9c30b… (all of the seat's roots in one cut). By AI agents, Wed Nov 11 2026. No macro, syntax, notation, axiom, sorry.
-/
import Derived.Test.YtlofpbmceipkkaaChecked
import GoSem.Claim
import GoSem.ClaimJoined
import GoSem.ClaimMapViews
import Derived.JoinedTies
import Derived.KernelRfl
namespace Go.Proofs.Ytlofpbmceipkkaa
/- THE CELL 'sum', in the pinned program and in every row, IS THE sha256 OF THE DUMP (.gsa) THAT YtlofpbmceipkkaaProg.lean LOADS. Nothing in Lean hashes anything: it is a label: what it is worth is what the hold of that sum in a sandbox is worth. -/
noncomputable def Try.pinned : Pinned := { name := "ytlofpbmceipkkaa", sum := "f4cb3daf61b9c30b2e697505f36bf1268ed7e436cd5dbc61fd0b309edf81ca32", checked := Try.checked }
namespace Rows
def none {H : Type} : Left H := { results := [], args := [] }

/-- 'docketlaw07.BlobPlays': WHATEVER THE INPUT: true; the input reads as it did. -/
def blobPlaysSpec : ChangeSpec := { name := "blobPlays", fn := fun _ => fun
  | [d1, d2] => { results := [.lit (.bool true)], args := [d1, d2] }
  | _ => none }
def blobPlaysRow : OpenClaim := { program := "ytlofpbmceipkkaa", sum := "f4cb3daf61b9c30b2e697505f36bf1268ed7e436cd5dbc61fd0b309edf81ca32", func := "docket/docketlaw07.BlobPlays", spec := "blobPlays", inPlace := ["internal/abi.NoEscape"], unfollowed := true, recurses := true, apart := false }
def BlobPlaysSaid : Prop := blobPlaysRow.holds Try.pinned (OpenSpec.ofChange blobPlaysSpec)

/-- ITS FALSE NEIGHBOUR: 'it returns false'. Refute it at one input. -/
def blobPlaysWrong : ChangeSpec := { name := "blobPlays", fn := fun _ => fun
  | [d1, d2] => { results := [.lit (.bool false)], args := [d1, d2] }
  | _ => none }
def BlobPlaysWrongFalsely : Prop := blobPlaysRow.holds Try.pinned (OpenSpec.ofChange blobPlaysWrong)

/-- 'docketlaw07.BlobParts': WHATEVER THE INPUT: true; the input reads as it did. -/
def blobPartsSpec : ChangeSpec := { name := "blobParts", fn := fun _ => fun
  | [d1, d2, d3] => { results := [.lit (.bool true)], args := [d1, d2, d3] }
  | _ => none }
def blobPartsRow : OpenClaim := { program := "ytlofpbmceipkkaa", sum := "f4cb3daf61b9c30b2e697505f36bf1268ed7e436cd5dbc61fd0b309edf81ca32", func := "docket/docketlaw07.BlobParts", spec := "blobParts", inPlace := ["internal/abi.NoEscape"], unfollowed := true, recurses := true, apart := false }
def BlobPartsSaid : Prop := blobPartsRow.holds Try.pinned (OpenSpec.ofChange blobPartsSpec)

/-- ITS FALSE NEIGHBOUR: 'it returns false'. Refute it at one input. -/
def blobPartsWrong : ChangeSpec := { name := "blobParts", fn := fun _ => fun
  | [d1, d2, d3] => { results := [.lit (.bool false)], args := [d1, d2, d3] }
  | _ => none }
def BlobPartsWrongFalsely : Prop := blobPartsRow.holds Try.pinned (OpenSpec.ofChange blobPartsWrong)

/-- 'docketlaw07.BlobClones': WHATEVER THE INPUT: true; the input reads as it did. -/
def blobClonesSpec : ChangeSpec := { name := "blobClones", fn := fun _ => fun
  | [d1, d2, d3] => { results := [.lit (.bool true)], args := [d1, d2, d3] }
  | _ => none }
def blobClonesRow : OpenClaim := { program := "ytlofpbmceipkkaa", sum := "f4cb3daf61b9c30b2e697505f36bf1268ed7e436cd5dbc61fd0b309edf81ca32", func := "docket/docketlaw07.BlobClones", spec := "blobClones", inPlace := ["internal/abi.NoEscape"], unfollowed := true, recurses := true, apart := false }
def BlobClonesSaid : Prop := blobClonesRow.holds Try.pinned (OpenSpec.ofChange blobClonesSpec)

/-- ITS FALSE NEIGHBOUR: 'it returns false'. Refute it at one input. -/
def blobClonesWrong : ChangeSpec := { name := "blobClones", fn := fun _ => fun
  | [d1, d2, d3] => { results := [.lit (.bool false)], args := [d1, d2, d3] }
  | _ => none }
def BlobClonesWrongFalsely : Prop := blobClonesRow.holds Try.pinned (OpenSpec.ofChange blobClonesWrong)

/- THE SECOND FORM. 'bulk': how many values and letters a reading holds, each counted each time it is reached (what is shared counts as often as it is met; a slice's spare places count too). A statement '..UptoSaid' is the law's where the arguments, and the package variables that the reading takes, are together of bulk at most 1048576: NARROWER than '..Said'. Prove '..Said' where nothing that the law and all that it calls make is longer than what came in: it says more and counts as full. Else prove '..UptoSaid'. A law counts once. -/
mutual
def uptoBulk {H : Type} : DataW H → Nat
  | .lit (.string bytes) => bytes.length + 1
  | .lit _ => 1
  | .nil => 1
  | .ptr d => uptoBulk d + 1
  | .slice elems spare => uptoBulkAll elems + uptoBulkAll spare + 1
  | .agg parts => uptoBulkAll parts + 1
  | .iface _ d => uptoBulk d + 1
  | .map entries => uptoBulkEntries entries + 1
  | .held _ => 1
def uptoBulkAll {H : Type} : List (DataW H) → Nat
  | [] => 0
  | d :: r => uptoBulk d + uptoBulkAll r
def uptoBulkEntries {H : Type} : List (Lit × DataW H) → Nat
  | [] => 0
  | x :: r => uptoBulkEntry x + uptoBulkEntries r
def uptoBulkEntry {H : Type} : Lit × DataW H → Nat
  | (.string bytes, d) => bytes.length + uptoBulk d + 1
  | (_, d) => uptoBulk d + 1
 end
def uptoSmall : (H : Type) → List (DataW H) → Bool := fun _ ds => decide (uptoBulkAll ds ≤ 1048576)
def OpenSpec.upto (s : _root_.Go.ChangeSpec) : _root_.Go.OpenSpec := { _root_.Go.OpenSpec.ofChange s with cond := some uptoSmall }

/-- 'docketlaw07.BlobPlays', WHERE WHAT IT READS IS OF BULK AT MOST 1048576: true; the input reads as it did. -/
def blobPlaysUptoRow : OpenClaim := { program := "ytlofpbmceipkkaa", sum := "f4cb3daf61b9c30b2e697505f36bf1268ed7e436cd5dbc61fd0b309edf81ca32", func := "docket/docketlaw07.BlobPlays", spec := "blobPlays", inPlace := ["internal/abi.NoEscape"], unfollowed := true, recurses := true, apart := false, narrowed := true }
def BlobPlaysUptoSaid : Prop := blobPlaysUptoRow.holds Try.pinned (OpenSpec.upto blobPlaysSpec)

/-- 'docketlaw07.BlobParts', WHERE WHAT IT READS IS OF BULK AT MOST 1048576: true; the input reads as it did. -/
def blobPartsUptoRow : OpenClaim := { program := "ytlofpbmceipkkaa", sum := "f4cb3daf61b9c30b2e697505f36bf1268ed7e436cd5dbc61fd0b309edf81ca32", func := "docket/docketlaw07.BlobParts", spec := "blobParts", inPlace := ["internal/abi.NoEscape"], unfollowed := true, recurses := true, apart := false, narrowed := true }
def BlobPartsUptoSaid : Prop := blobPartsUptoRow.holds Try.pinned (OpenSpec.upto blobPartsSpec)

/-- 'docketlaw07.BlobClones', WHERE WHAT IT READS IS OF BULK AT MOST 1048576: true; the input reads as it did. -/
def blobClonesUptoRow : OpenClaim := { program := "ytlofpbmceipkkaa", sum := "f4cb3daf61b9c30b2e697505f36bf1268ed7e436cd5dbc61fd0b309edf81ca32", func := "docket/docketlaw07.BlobClones", spec := "blobClones", inPlace := ["internal/abi.NoEscape"], unfollowed := true, recurses := true, apart := false, narrowed := true }
def BlobClonesUptoSaid : Prop := blobClonesUptoRow.holds Try.pinned (OpenSpec.upto blobClonesSpec)

end Rows
end Go.Proofs.Ytlofpbmceipkkaa
