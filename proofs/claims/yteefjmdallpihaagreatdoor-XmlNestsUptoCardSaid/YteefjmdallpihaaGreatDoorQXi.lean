/-
  docketlaw10: what the rows list (the library's variables) gives the walks; a start that fits.
-/
import Derived.Test.YteefjmdallpihaaGreatDoorQXh
import Derived.Test.YteefjmdallpihaaGreatDoorTie
import Derived.Test.YteefjmdallpihaaGreatDoorCards
import Derived.Lib.LaidU8T
import Derived.Stop.LaidErr
import Derived.LaidLaws
import Derived.LaidMore
import Derived.MakeChecks
import Derived.Deep.DeepHandedRow
import Derived.Deep.DeepWitnessRowRef
import Derived.Deep.Grids
import Derived.Deep.Strs
import Derived.Lib.LaidTab
import Derived.Test.YteefjmdallpihaaGreatDoorXn0
import Derived.PinnedBridge
namespace Go.Proofs.YteefjmdallpihaaGreatDoor
open Go.ChangeShapes Go.WideShapes Go.ChangeAt Go.RowKit Go.Deep Reply

theorem own : ownKnob Tryz.prog.godebug = none := by kernel_rfl
theorem laidOut : laidOutB Tryz.prog = true := by kernel_rfl
/-- What all rows list. -/
noncomputable def lst : List (String × DataW Unit) := Rows.xmlNestsUptoRow.laid
theorem first_is : Rows.laid_unicode_utf8_first = Lib.firstData := by kernel_rfl
theorem accept_is : (Rows.laid_unicode_utf8_acceptRanges : DataW Unit) = Lib.acceptData := by kernel_rfl
theorem star : "*" ++ "errors.errorString" = "*errors.errorString" := by decide
theorem rowErr (u : TypeId) (h : Tryz.prog.typeName? 3 u = some "*errors.errorString") : u = 159 :=
  typeName_ptr_named (nm := "errors.errorString") (by rw [star]; kernel_rfl) (by kernel_rfl) (by decide) u (by rw [star]; exact h)
/-- unicode.asciiFold, as numbers. -/
def foldTab : List Nat := (List.range 128).map fun c => if 65 ≤ c ∧ c ≤ 90 then (if c = 75 then 107 else if c = 83 then 115 else c + 32) else if 97 ≤ c ∧ c ≤ 122 then (if c = 107 then 8490 else if c = 115 then 383 else c - 32) else c
theorem fold_is : (Rows.laid_unicode_asciiFold : DataW Unit) = Lib.tabData .u16 (foldTab.map fun n : Nat => (n : Int)) := by kernel_rfl
theorem env_of {W : World} (h : laidMetH Tryz.prog lst W) (hsh : W.ShapedOpen Tryz.prog) : EnvX W := by
  rw [MakeChecks.laidMetH_plain _ _ _ (by kernel_rfl)] at h
  have h4 := h.tail.tail.tail.tail
  have h5 := h4.tail
  have h6 := h5.tail
  obtain ⟨a, s, hv, _, _, _⟩ := laid_sentinel h4 (g := 7) (ti := 101) (tp := 159) (te := 161) (ts := 9) (by kernel_rfl) (by kernel_rfl) Tryz.underlying101 rowErr Tryz.underlying159 Tryz.underlying161 rfl rfl Tryz.underlying9 (by kernel_rfl) (by kernel_rfl)
  obtain ⟨a2, s2, hv2, _, _, _⟩ := laid_sentinel h5 (g := 6) (ti := 101) (tp := 159) (te := 161) (ts := 9) (by kernel_rfl) (by kernel_rfl) Tryz.underlying101 rowErr Tryz.underlying159 Tryz.underlying161 rfl rfl Tryz.underlying9 (by kernel_rfl) (by kernel_rfl)
  have e6 : ∀ rest, laidMet Tryz.prog (("unicode.asciiFold", (Rows.laid_unicode_asciiFold : DataW Unit)) :: rest) W → laidMet Tryz.prog (("unicode.asciiFold", Lib.tabData .u16 (foldTab.map fun n : Nat => (n : Int))) :: rest) W := fun rest h => by rw [← fold_is]; exact h
  have tf : Lib.TabIs Tryz.prog W "unicode.asciiFold" .u16 (foldTab.map fun n : Nat => (n : Int)) := Lib.tabIs_of_head (g := 2) (t := 122) (e := 22) (n := 128) (by kernel_rfl) (by kernel_rfl) Tryz.underlying122 Tryz.underlying22 (by kernel_rfl) (by kernel_rfl) (e6 _ h6)
  refine ⟨cell_of_shapedOpen_int (P := Tryz.prog) (g := 5) (t := 3) (zero := #[.int .i64 0]) hsh (of_decide_eq_true (by kernel_rfl)) (by kernel_rfl) rfl (by kernel_rfl) (by kernel_rfl) Tryz.underlying3,
    utf8Tabs_of_readsT (ρ := Tryz.laysValid_ren) (U8Types.of196 Tryz.laysValid) ⟨by kernel_rfl, by kernel_rfl, by kernel_rfl, by kernel_rfl, by kernel_rfl, by kernel_rfl, by kernel_rfl⟩
      (Lib.laidMet.reads h (by rw [← first_is]; exact .tail _ (.tail _ (.tail _ (.tail _ (.tail _ (.tail _ (.tail _ (.tail _ (.tail _ (.head _))))))))))) (Lib.laidMet.reads h (by rw [← accept_is]; exact .tail _ (.tail _ (.tail _ (.head _))))),
    ⟨.iface 159 (.pointer (some a2)), ?_, .inr ⟨_, _, rfl⟩⟩, ⟨.iface 159 (.pointer (some a)), ?_, .inr ⟨_, _, rfl⟩⟩, fun x y hxy => ?_⟩
  · have := World.var?_cell (g := 6) (by kernel_rfl) hv2 0
    simpa using this
  · have := World.var?_cell (g := 7) (by kernel_rfl) hv 0
    simpa using this
  · have hf : x < 128 ∧ foldTab[x]? = some y := by
      have all : ∀ q ∈ [(120, 88), (88, 120), (109, 77), (77, 109), (108, 76), (76, 108)], q.1 < 128 ∧ foldTab[q.1]? = some q.2 := by decide +kernel
      exact all (x, y) hxy
    have hl : (foldTab.map fun n : Nat => (n : Int)).length = 128 := by rw [List.length_map]; rfl
    have := Lib.TabIs.cell tf (g := 2) (by kernel_rfl) x (by rw [hl]; exact hf.1)
    rw [this]
    congr 2
    rw [List.getD_eq_getElem?_getD, List.getElem?_map, hf.2]
    rfl
def layFirst (o : Obj) : Obj := match o with
  | .cells _ t frozen => .cells (Lib.firstTab.map fun z => Value.int .u8 z).toArray t frozen
  | o => o
def layCases (b : Nat) (o : Obj) : Obj := match o with
  | .cells _ t frozen => .cells #[.slice (some ⟨b, 0, none⟩) Lib.caseA.size Lib.caseA.size] t frozen
  | o => o
def layHeap (h : Array Obj) : Array Obj := Array.push ((h.modify 0 layFirst).modify 4 (layCases h.size)) (Obj.cells Lib.caseCells5 142 (0, 0))
/-- The heap that the program's own start leaves, and the two pinned tables beside: it meets the list. -/
noncomputable def startW (os : Os) : World := { World.doorLaid Tryz.prog 176 os with heap := layHeap (World.doorLaid Tryz.prog 176 os).heap }
noncomputable def startM (os : Os) (args : Array Value) : World := ((startW os).forCall (fun _ _ => 0) ⟨#[], args, []⟩).memory
noncomputable def startR : Nat := (World.doorLaid Tryz.prog 176 default).heap.size
theorem cases_is : (Rows.laid_unicode_CaseRanges : DataW Unit) = Lib.caseData := Pinned.caseRanges_eq
noncomputable def lst1 : List (String × DataW Unit) := lst.take 8
noncomputable def lst3 : List (String × DataW Unit) := lst.drop 9
theorem lst_is : lst = lst1 ++ ([("unicode.CaseRanges", Lib.caseData)] ++ lst3) := by
  rw [← cases_is]
  rfl
theorem case_extra : CaseExtra Tryz.prog Tryz.laysEqualFold_ren := ⟨by kernel_rfl, by kernel_rfl, by kernel_rfl, by kernel_rfl, by kernel_rfl, by kernel_rfl⟩
theorem case_lays : Lays.n274 Tryz.prog Tryz.laysEqualFold_ren := { Tryz.laysEqualFold with }
theorem case_206 : Tryz.prog.underlying (Tryz.laysEqualFold_ren.t 206) = some (.array 3 (Tryz.laysEqualFold_ren.t 21)) := by kernel_rfl
theorem case_var (os : Os) (args : Array Value) : (startM os args).heap[4]? = some (.cells #[.slice (some ⟨startR, 0, none⟩) Lib.caseA.size Lib.caseA.size] (Tryz.laysEqualFold_ren.t 162) (0, 0)) := by kernel_rfl
theorem case_blk (os : Os) (args : Array Value) : (startM os args).heap[startR]? = some (.cells Lib.caseCells5 142 (0, 0)) := by kernel_rfl
noncomputable def B1 : List Nat := (List.range startR).filter fun b => b != 4 && b != 0
noncomputable def B2 : List Nat := [4, startR]
theorem small1 (os : Os) (args : Array Value) : LaidIn Tryz.prog (startM os args) lst1 B1 := LaidIn.of_run B1 8 (by kernel_rfl) (by kernel_rfl) (by kernel_rfl) (by kernel_rfl)
theorem small3 (os : Os) (args : Array Value) : LaidIn Tryz.prog (startM os args) lst3 [0] := LaidIn.of_run [0] 8 (by kernel_rfl) (by kernel_rfl) (by kernel_rfl) (by kernel_rfl)
theorem cases2 (os : Os) (args : Array Value) : LaidIn Tryz.prog (startM os args) [("unicode.CaseRanges", Lib.caseData)] B2 :=
  case_in case_lays case_206 case_extra (of_decide_eq_true (by kernel_rfl)) (case_var os args) (case_blk os args)
theorem door_met (os : Os) (args : Array Value) : laidMet Tryz.prog lst ((startW os).forCall (fun _ _ => 0) ⟨#[], args, []⟩).memory := by
  show laidMet Tryz.prog lst (startM os args)
  rw [lst_is]
  exact ((small1 os args).append ((cases2 os args).append (small3 os args) (by kernel_rfl)) (by kernel_rfl)).met
end Go.Proofs.YteefjmdallpihaaGreatDoor
