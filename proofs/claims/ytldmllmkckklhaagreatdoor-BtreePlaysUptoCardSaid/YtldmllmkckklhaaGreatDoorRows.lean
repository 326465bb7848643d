/-
  NARROWER THAN 'FOR EVERY INPUT', by the rows' own cells (each row's printed sentence says how): BtreePlays: laid · BtreeCopies: laid · BtreeNone: laid · BtreeOrder: laid · BtreePages: laid.
  DERIVED. THE GIVEN ROWS OF THIS SEAT. 5 by the template 'for every input the law returns true; each argument reads behind the call as it read before'; 0 by the template 'total and deterministic' (their statements: YtldmllmkckklhaaGreatDoorTotals.lean).
  GIVEN WITH THE SEED: the statements are not yours to turn. If you find one false, say at which input.
  Laid BY PROGRAM, IN A SANDBOX (cutbox-rows.mjs): the forced cells as the released guide's own fill.sh prints them over the translation f3e5ee5dd0779482… (all of the seat's roots in one cut). By AI agents, Wed Nov 11 2026. No macro, syntax, notation, axiom, sorry.
-/
import Derived.Test.YtldmllmkckklhaaGreatDoorChecked
import GoSem.PinnedTables
import GoSem.Claim
import GoSem.ClaimJoined
import GoSem.ClaimMapViews
import Derived.JoinedTies
import Derived.KernelRfl
namespace Go.Proofs.YtldmllmkckklhaaGreatDoor
/- THE CELL 'sum', in the pinned program and in every row, IS THE sha256 OF THE DUMP (.gsa) THAT YtldmllmkckklhaaGreatDoorProg.lean LOADS. Nothing in Lean hashes anything: it is a label: what it is worth is what the hold of that sum in a sandbox is worth. -/
noncomputable def Tryz.pinned : Pinned := { name := "ytldmllmkckklhaagreatdoor", sum := "f3e5ee5dd0779482a75d5535eeaf526c3c957523ece7b90218d934cd13ba4a28", checked := Tryz.checked }
namespace Rows
def none {H : Type} : Left H := { results := [], args := [] }

/- WHAT THE LISTED PACKAGE-LEVEL VARIABLES READ AS WHEN THE CALL BEGINS. Each datum BY PROGRAM (the guide's laid-datum.mjs) off the statement by which the dump's own 'gosem.cut.vars' lays the variable. In a bare row this is a premise. The card (YtldmllmkckklhaaGreatDoorCards.lean) ties it to the program's text. -/
def laid_unicode_utf8_acceptRanges {H : Type} : DataW H := .agg [.agg [.lit (.int .u8 128), .lit (.int .u8 191)], .agg [.lit (.int .u8 160), .lit (.int .u8 191)], .agg [.lit (.int .u8 128), .lit (.int .u8 159)], .agg [.lit (.int .u8 144), .lit (.int .u8 191)], .agg [.lit (.int .u8 128), .lit (.int .u8 143)], .agg [.lit (.int .u8 0), .lit (.int .u8 0)], .agg [.lit (.int .u8 0), .lit (.int .u8 0)], .agg [.lit (.int .u8 0), .lit (.int .u8 0)], .agg [.lit (.int .u8 0), .lit (.int .u8 0)], .agg [.lit (.int .u8 0), .lit (.int .u8 0)], .agg [.lit (.int .u8 0), .lit (.int .u8 0)], .agg [.lit (.int .u8 0), .lit (.int .u8 0)], .agg [.lit (.int .u8 0), .lit (.int .u8 0)], .agg [.lit (.int .u8 0), .lit (.int .u8 0)], .agg [.lit (.int .u8 0), .lit (.int .u8 0)], .agg [.lit (.int .u8 0), .lit (.int .u8 0)]]
/-- One of Go's own tables, pinned by name: the form's constant. -/
def laid_unicode_utf8_first : DataW Unit := Go.Pinned.utf8First

/-- 'docketlaw06.BtreePlays': WHATEVER THE INPUT: true; the input reads as it did. -/
def btreePlaysSpec : ChangeSpec := { name := "btreePlays", fn := fun _ => fun
  | [d] => { results := [.lit (.bool true)], args := [d] }
  | _ => none }
def btreePlaysRow : OpenClaim := { program := "ytldmllmkckklhaagreatdoor", sum := "f3e5ee5dd0779482a75d5535eeaf526c3c957523ece7b90218d934cd13ba4a28", func := "docket/docketlaw06.BtreePlays", spec := "btreePlays", inPlace := ["internal/bytealg.abigen_runtime_cmpstring", "slices.overlaps[docket/btree.entry]", "internal/bytealg.IndexByteString", "internal/bytealg.IndexString"], unfollowed := true, recurses := true, named := ["unicode/utf8.first", "unicode/utf8.acceptRanges", "internal/bytealg.MaxLen"], apart := false, laid := [("unicode/utf8.acceptRanges", laid_unicode_utf8_acceptRanges), ("unicode/utf8.first", laid_unicode_utf8_first)] }
def BtreePlaysSaid : Prop := btreePlaysRow.holds Tryz.pinned (OpenSpec.ofChange btreePlaysSpec)

/-- ITS FALSE NEIGHBOUR: 'it returns false'. Refute it at one input. -/
def btreePlaysWrong : ChangeSpec := { name := "btreePlays", fn := fun _ => fun
  | [d] => { results := [.lit (.bool false)], args := [d] }
  | _ => none }
def BtreePlaysWrongFalsely : Prop := btreePlaysRow.holds Tryz.pinned (OpenSpec.ofChange btreePlaysWrong)

/-- 'docketlaw06.BtreeCopies': WHATEVER THE INPUT: true; the input reads as it did. -/
def btreeCopiesSpec : ChangeSpec := { name := "btreeCopies", fn := fun _ => fun
  | [d1, d2] => { results := [.lit (.bool true)], args := [d1, d2] }
  | _ => none }
def btreeCopiesRow : OpenClaim := { program := "ytldmllmkckklhaagreatdoor", sum := "f3e5ee5dd0779482a75d5535eeaf526c3c957523ece7b90218d934cd13ba4a28", func := "docket/docketlaw06.BtreeCopies", spec := "btreeCopies", inPlace := ["internal/bytealg.abigen_runtime_cmpstring", "slices.overlaps[docket/btree.entry]", "internal/bytealg.IndexByteString", "internal/bytealg.IndexString"], unfollowed := true, recurses := true, named := ["unicode/utf8.first", "unicode/utf8.acceptRanges", "internal/bytealg.MaxLen"], apart := false, laid := [("unicode/utf8.acceptRanges", laid_unicode_utf8_acceptRanges), ("unicode/utf8.first", laid_unicode_utf8_first)] }
def BtreeCopiesSaid : Prop := btreeCopiesRow.holds Tryz.pinned (OpenSpec.ofChange btreeCopiesSpec)

/-- ITS FALSE NEIGHBOUR: 'it returns false'. Refute it at one input. -/
def btreeCopiesWrong : ChangeSpec := { name := "btreeCopies", fn := fun _ => fun
  | [d1, d2] => { results := [.lit (.bool false)], args := [d1, d2] }
  | _ => none }
def BtreeCopiesWrongFalsely : Prop := btreeCopiesRow.holds Tryz.pinned (OpenSpec.ofChange btreeCopiesWrong)

/-- 'docketlaw06.BtreeNone': WHATEVER THE INPUT: true; the input reads as it did. -/
def btreeNoneSpec : ChangeSpec := { name := "btreeNone", fn := fun _ => fun
  | [d] => { results := [.lit (.bool true)], args := [d] }
  | _ => none }
def btreeNoneRow : OpenClaim := { program := "ytldmllmkckklhaagreatdoor", sum := "f3e5ee5dd0779482a75d5535eeaf526c3c957523ece7b90218d934cd13ba4a28", func := "docket/docketlaw06.BtreeNone", spec := "btreeNone", inPlace := ["internal/bytealg.abigen_runtime_cmpstring", "slices.overlaps[docket/btree.entry]", "internal/bytealg.IndexByteString", "internal/bytealg.IndexString"], unfollowed := true, recurses := true, named := ["unicode/utf8.first", "unicode/utf8.acceptRanges", "internal/bytealg.MaxLen"], apart := false, laid := [("unicode/utf8.acceptRanges", laid_unicode_utf8_acceptRanges), ("unicode/utf8.first", laid_unicode_utf8_first)] }
def BtreeNoneSaid : Prop := btreeNoneRow.holds Tryz.pinned (OpenSpec.ofChange btreeNoneSpec)

/-- ITS FALSE NEIGHBOUR: 'it returns false'. Refute it at one input. -/
def btreeNoneWrong : ChangeSpec := { name := "btreeNone", fn := fun _ => fun
  | [d] => { results := [.lit (.bool false)], args := [d] }
  | _ => none }
def BtreeNoneWrongFalsely : Prop := btreeNoneRow.holds Tryz.pinned (OpenSpec.ofChange btreeNoneWrong)

/-- 'docketlaw06.BtreeOrder': WHATEVER THE INPUT: true; the input reads as it did. -/
def btreeOrderSpec : ChangeSpec := { name := "btreeOrder", fn := fun _ => fun
  | [d] => { results := [.lit (.bool true)], args := [d] }
  | _ => none }
def btreeOrderRow : OpenClaim := { program := "ytldmllmkckklhaagreatdoor", sum := "f3e5ee5dd0779482a75d5535eeaf526c3c957523ece7b90218d934cd13ba4a28", func := "docket/docketlaw06.BtreeOrder", spec := "btreeOrder", inPlace := ["internal/bytealg.abigen_runtime_cmpstring", "slices.overlaps[docket/btree.entry]", "internal/bytealg.IndexByteString", "internal/bytealg.IndexString"], unfollowed := true, recurses := true, named := ["unicode/utf8.first", "unicode/utf8.acceptRanges", "internal/bytealg.MaxLen"], apart := false, laid := [("unicode/utf8.acceptRanges", laid_unicode_utf8_acceptRanges), ("unicode/utf8.first", laid_unicode_utf8_first)] }
def BtreeOrderSaid : Prop := btreeOrderRow.holds Tryz.pinned (OpenSpec.ofChange btreeOrderSpec)

/-- ITS FALSE NEIGHBOUR: 'it returns false'. Refute it at one input. -/
def btreeOrderWrong : ChangeSpec := { name := "btreeOrder", fn := fun _ => fun
  | [d] => { results := [.lit (.bool false)], args := [d] }
  | _ => none }
def BtreeOrderWrongFalsely : Prop := btreeOrderRow.holds Tryz.pinned (OpenSpec.ofChange btreeOrderWrong)

/-- 'docketlaw06.BtreePages': WHATEVER THE INPUT: true; the input reads as it did. -/
def btreePagesSpec : ChangeSpec := { name := "btreePages", fn := fun _ => fun
  | [d1, d2] => { results := [.lit (.bool true)], args := [d1, d2] }
  | _ => none }
def btreePagesRow : OpenClaim := { program := "ytldmllmkckklhaagreatdoor", sum := "f3e5ee5dd0779482a75d5535eeaf526c3c957523ece7b90218d934cd13ba4a28", func := "docket/docketlaw06.BtreePages", spec := "btreePages", inPlace := ["internal/bytealg.abigen_runtime_cmpstring", "slices.overlaps[docket/btree.entry]", "internal/bytealg.IndexByteString", "internal/bytealg.IndexString"], unfollowed := true, recurses := true, named := ["unicode/utf8.first", "unicode/utf8.acceptRanges", "internal/bytealg.MaxLen"], apart := false, laid := [("unicode/utf8.acceptRanges", laid_unicode_utf8_acceptRanges), ("unicode/utf8.first", laid_unicode_utf8_first)] }
def BtreePagesSaid : Prop := btreePagesRow.holds Tryz.pinned (OpenSpec.ofChange btreePagesSpec)

/-- ITS FALSE NEIGHBOUR: 'it returns false'. Refute it at one input. -/
def btreePagesWrong : ChangeSpec := { name := "btreePages", fn := fun _ => fun
  | [d1, d2] => { results := [.lit (.bool false)], args := [d1, d2] }
  | _ => none }
def BtreePagesWrongFalsely : Prop := btreePagesRow.holds Tryz.pinned (OpenSpec.ofChange btreePagesWrong)

/- THE SECOND FORM. 'bulk': how many values and letters a reading holds, each counted each time it is reached (what is shared counts as often as it is met; a slice's spare places count too). A statement '..UptoSaid' is the law's where the arguments, and the package variables that the reading takes, are together of bulk at most 1048576: NARROWER than '..Said'. Prove '..Said' where nothing that the law and all that it calls make is longer than what came in: it says more and counts as full. Else prove '..UptoSaid'. A law counts once. -/
mutual
def uptoBulk {H : Type} : DataW H → Nat
  | .lit (.string bytes) => bytes.length + 1
  | .lit _ => 1
  | .nil => 1
  | .ptr d => uptoBulk d + 1
  | .slice elems spare => uptoBulkAll elems + uptoBulkAll spare + 1
  | .agg parts => uptoBulkAll parts + 1
  | .iface _ d => uptoBulk d + 1
  | .map entries => uptoBulkEntries entries + 1
  | .held _ => 1
def uptoBulkAll {H : Type} : List (DataW H) → Nat
  | [] => 0
  | d :: r => uptoBulk d + uptoBulkAll r
def uptoBulkEntries {H : Type} : List (Lit × DataW H) → Nat
  | [] => 0
  | x :: r => uptoBulkEntry x + uptoBulkEntries r
def uptoBulkEntry {H : Type} : Lit × DataW H → Nat
  | (.string bytes, d) => bytes.length + uptoBulk d + 1
  | (_, d) => uptoBulk d + 1
 end
def uptoSmall : (H : Type) → List (DataW H) → Bool := fun _ ds => decide (uptoBulkAll ds ≤ 1048576)
def OpenSpec.upto (s : _root_.Go.ChangeSpec) : _root_.Go.OpenSpec := { _root_.Go.OpenSpec.ofChange s with cond := some uptoSmall }

/-- 'docketlaw06.BtreePlays', WHERE WHAT IT READS IS OF BULK AT MOST 1048576: true; the input reads as it did. -/
def btreePlaysUptoRow : OpenClaim := { program := "ytldmllmkckklhaagreatdoor", sum := "f3e5ee5dd0779482a75d5535eeaf526c3c957523ece7b90218d934cd13ba4a28", func := "docket/docketlaw06.BtreePlays", spec := "btreePlays", inPlace := ["internal/bytealg.abigen_runtime_cmpstring", "slices.overlaps[docket/btree.entry]", "internal/bytealg.IndexByteString", "internal/bytealg.IndexString"], unfollowed := true, recurses := true, named := ["unicode/utf8.first", "unicode/utf8.acceptRanges", "internal/bytealg.MaxLen"], apart := false, laid := [("unicode/utf8.acceptRanges", laid_unicode_utf8_acceptRanges), ("unicode/utf8.first", laid_unicode_utf8_first)], narrowed := true }
def BtreePlaysUptoSaid : Prop := btreePlaysUptoRow.holds Tryz.pinned (OpenSpec.upto btreePlaysSpec)

/-- 'docketlaw06.BtreeCopies', WHERE WHAT IT READS IS OF BULK AT MOST 1048576: true; the input reads as it did. -/
def btreeCopiesUptoRow : OpenClaim := { program := "ytldmllmkckklhaagreatdoor", sum := "f3e5ee5dd0779482a75d5535eeaf526c3c957523ece7b90218d934cd13ba4a28", func := "docket/docketlaw06.BtreeCopies", spec := "btreeCopies", inPlace := ["internal/bytealg.abigen_runtime_cmpstring", "slices.overlaps[docket/btree.entry]", "internal/bytealg.IndexByteString", "internal/bytealg.IndexString"], unfollowed := true, recurses := true, named := ["unicode/utf8.first", "unicode/utf8.acceptRanges", "internal/bytealg.MaxLen"], apart := false, laid := [("unicode/utf8.acceptRanges", laid_unicode_utf8_acceptRanges), ("unicode/utf8.first", laid_unicode_utf8_first)], narrowed := true }
def BtreeCopiesUptoSaid : Prop := btreeCopiesUptoRow.holds Tryz.pinned (OpenSpec.upto btreeCopiesSpec)

/-- 'docketlaw06.BtreeNone', WHERE WHAT IT READS IS OF BULK AT MOST 1048576: true; the input reads as it did. -/
def btreeNoneUptoRow : OpenClaim := { program := "ytldmllmkckklhaagreatdoor", sum := "f3e5ee5dd0779482a75d5535eeaf526c3c957523ece7b90218d934cd13ba4a28", func := "docket/docketlaw06.BtreeNone", spec := "btreeNone", inPlace := ["internal/bytealg.abigen_runtime_cmpstring", "slices.overlaps[docket/btree.entry]", "internal/bytealg.IndexByteString", "internal/bytealg.IndexString"], unfollowed := true, recurses := true, named := ["unicode/utf8.first", "unicode/utf8.acceptRanges", "internal/bytealg.MaxLen"], apart := false, laid := [("unicode/utf8.acceptRanges", laid_unicode_utf8_acceptRanges), ("unicode/utf8.first", laid_unicode_utf8_first)], narrowed := true }
def BtreeNoneUptoSaid : Prop := btreeNoneUptoRow.holds Tryz.pinned (OpenSpec.upto btreeNoneSpec)

/-- 'docketlaw06.BtreeOrder', WHERE WHAT IT READS IS OF BULK AT MOST 1048576: true; the input reads as it did. -/
def btreeOrderUptoRow : OpenClaim := { program := "ytldmllmkckklhaagreatdoor", sum := "f3e5ee5dd0779482a75d5535eeaf526c3c957523ece7b90218d934cd13ba4a28", func := "docket/docketlaw06.BtreeOrder", spec := "btreeOrder", inPlace := ["internal/bytealg.abigen_runtime_cmpstring", "slices.overlaps[docket/btree.entry]", "internal/bytealg.IndexByteString", "internal/bytealg.IndexString"], unfollowed := true, recurses := true, named := ["unicode/utf8.first", "unicode/utf8.acceptRanges", "internal/bytealg.MaxLen"], apart := false, laid := [("unicode/utf8.acceptRanges", laid_unicode_utf8_acceptRanges), ("unicode/utf8.first", laid_unicode_utf8_first)], narrowed := true }
def BtreeOrderUptoSaid : Prop := btreeOrderUptoRow.holds Tryz.pinned (OpenSpec.upto btreeOrderSpec)

/-- 'docketlaw06.BtreePages', WHERE WHAT IT READS IS OF BULK AT MOST 1048576: true; the input reads as it did. -/
def btreePagesUptoRow : OpenClaim := { program := "ytldmllmkckklhaagreatdoor", sum := "f3e5ee5dd0779482a75d5535eeaf526c3c957523ece7b90218d934cd13ba4a28", func := "docket/docketlaw06.BtreePages", spec := "btreePages", inPlace := ["internal/bytealg.abigen_runtime_cmpstring", "slices.overlaps[docket/btree.entry]", "internal/bytealg.IndexByteString", "internal/bytealg.IndexString"], unfollowed := true, recurses := true, named := ["unicode/utf8.first", "unicode/utf8.acceptRanges", "internal/bytealg.MaxLen"], apart := false, laid := [("unicode/utf8.acceptRanges", laid_unicode_utf8_acceptRanges), ("unicode/utf8.first", laid_unicode_utf8_first)], narrowed := true }
def BtreePagesUptoSaid : Prop := btreePagesUptoRow.holds Tryz.pinned (OpenSpec.upto btreePagesSpec)

end Rows
end Go.Proofs.YtldmllmkckklhaaGreatDoor
