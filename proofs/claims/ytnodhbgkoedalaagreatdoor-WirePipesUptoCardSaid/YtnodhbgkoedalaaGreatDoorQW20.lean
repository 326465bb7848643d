/-
  docketlaw11: what the rows list gives the walks; a start that fits; texts that came in.
-/
import Derived.Test.YtnodhbgkoedalaaGreatDoorQW19
import Derived.Test.YtnodhbgkoedalaaGreatDoorTie
import Derived.Test.YtnodhbgkoedalaaGreatDoorCards
import Derived.Lib.LaidU8T
import Derived.Stop.LaidErr
import Derived.LaidLaws
import Derived.LaidMore
import Derived.MakeChecks
import Derived.Deep.DeepHandedRow
import Derived.Deep.DeepWitnessRowRef
import Derived.Deep.Strs
import Derived.Deep.SlicePairs
import Derived.Lib.LaidTab
import Derived.Shelf.Vars
namespace Go.Proofs.YtnodhbgkoedalaaGreatDoor
open Go.ChangeShapes Go.WideShapes Go.ChangeAt Go.RowKit Go.Deep Reply

theorem own : ownKnob Tryz.prog.godebug = none := by kernel_rfl
theorem laidOut : laidOutB Tryz.prog = true := by kernel_rfl
/-- What all rows list. -/
noncomputable def lst : List (String × DataW Unit) := Rows.wireLimitsUptoRow.laid
theorem pow_is : (Rows.laid_internal_strconv_uint64pow10 : DataW Unit) = Lib.tabData .u64 Lib.pow10Tab := by kernel_rfl
theorem star : "*" ++ "errors.errorString" = "*errors.errorString" := by decide
theorem rowErr (u : TypeId) (h : Tryz.prog.typeName? 3 u = some "*errors.errorString") : u = 127 :=
  typeName_ptr_named (nm := "errors.errorString") (by rw [star]; kernel_rfl) (by kernel_rfl) (by decide) u (by rw [star]; exact h)
theorem env_of {W : World} (h : laidMetH Tryz.prog lst W) (hsh : W.ShapedOpen Tryz.prog) : Env W := by
  rw [MakeChecks.laidMetH_plain _ _ _ (by kernel_rfl)] at h
  have h2 := h.tail.tail
  have h4 := h2.tail.tail
  have h5 := h4.tail
  obtain ⟨a, s, hv, _, _, _⟩ := laid_sentinel h4 (g := 2) (ti := 83) (tp := 127) (te := 129) (ts := 9) (by kernel_rfl) (by kernel_rfl) Tryz.underlying83 rowErr Tryz.underlying127 Tryz.underlying129 rfl rfl Tryz.underlying9 (by kernel_rfl) (by kernel_rfl)
  obtain ⟨a2, s2, hv2, _, _, _⟩ := laid_sentinel h5 (g := 1) (ti := 83) (tp := 127) (te := 129) (ts := 9) (by kernel_rfl) (by kernel_rfl) Tryz.underlying83 rowErr Tryz.underlying127 Tryz.underlying129 rfl rfl Tryz.underlying9 (by kernel_rfl) (by kernel_rfl)
  refine ⟨cell_of_shapedOpen_int (P := Tryz.prog) (g := 0) (t := 3) (zero := #[.int .i64 0]) hsh (of_decide_eq_true (by kernel_rfl)) (by kernel_rfl) rfl (by kernel_rfl) (by kernel_rfl) Tryz.underlying3, ?_, ⟨.iface 127 (.pointer (some a2)), ?_, .inr ⟨_, _, rfl⟩⟩, ⟨.iface 127 (.pointer (some a)), ?_, .inr ⟨_, _, rfl⟩⟩⟩
  · have e : ∀ rest, laidMet Tryz.prog (("internal/strconv.uint64pow10", (Rows.laid_internal_strconv_uint64pow10 : DataW Unit)) :: rest) W → laidMet Tryz.prog (("internal/strconv.uint64pow10", Lib.tabData .u64 Lib.pow10Tab) :: rest) W := fun rest h => by rw [← pow_is]; exact h
    exact Lib.tabIs_of_head (g := 5) (t := 137) (e := 70) (n := 20) (by kernel_rfl) (by kernel_rfl) Tryz.underlying137 Tryz.underlying70 (by kernel_rfl) (by kernel_rfl) (e _ h2)
  · have := World.var?_cell (g := 1) (by kernel_rfl) hv2 0
    simpa using this
  · have := World.var?_cell (g := 2) (by kernel_rfl) hv 0
    simpa using this
/-- The heap that the program's own start leaves, and utf8's table beside: it meets the list. -/
noncomputable def startW (os : Os) : World :=
  { World.doorLaid Tryz.prog 72 os with heap := (World.doorLaid Tryz.prog 72 os).heap.modify 3 fun
      | .cells _ t frozen => .cells (Lib.firstTab.map fun z => Value.int .u8 z).toArray t frozen
      | o => o }
theorem door_met (os : Os) (args : Array Value) : laidMet Tryz.prog lst ((startW os).forCall (fun _ _ => 0) ⟨#[], args, []⟩).memory :=
  laidMet_of_run' 8 (by kernel_rfl) (by kernel_rfl)
set_option maxRecDepth 100000 in
theorem open_str {H : Type} {enc : TypeId × Value → H} {W : World} {r : Reach} {b0 : Nat} {v : Value} {d : DataW H} {p : List MemPlace} (hv : Value.okWide Tryz.prog W r b0 9 v) (h : DataW.Trod enc Tryz.prog W 0 (fun _ => true) true 9 v d p) (hk : Rows.uptoBulk d ≤ 1048576) :
    ∃ l : Reply.B, v = .string (S l) ∧ l.length ≤ 1048576 := by
  obtain ⟨s, rfl⟩ := okWide_string Tryz.underlying9 hv
  obtain ⟨fuel, hf⟩ := h
  obtain ⟨z, e, x, _⟩ := DataW.trod_string Tryz.underlying9 hf
  simp only [Prod.mk.injEq] at x
  rw [x.1] at hk
  simp only [Rows.uptoBulk] at hk
  have e1 : s = z := by simpa [Value.cells] using e
  subst e1
  exact ⟨s.data.toList, by rw [S_of], by omega⟩
end Go.Proofs.YtnodhbgkoedalaaGreatDoor
