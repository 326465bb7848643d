/-
  docketlaw06: the start that fits; scripts and lists of pairs that came in.
-/
import Derived.Test.YtnogmgnbhcmajaaDoorQA63
import Derived.Test.YtnogmgnbhcmajaaDoorQBm2
import Derived.Test.YtnogmgnbhcmajaaDoorTie
import Derived.Test.YtnogmgnbhcmajaaDoorCards
import Derived.Lib.LaidU8T
import Derived.Stop.LaidErr
import Derived.LaidLaws
import Derived.LaidMore
import Derived.MakeChecks
import Derived.Deep.DeepHandedRow
import Derived.Deep.DeepWitnessRowRef
import Derived.Deep.Strs
import Derived.Deep.Slices
import Derived.Deep.Grids
import Derived.Lib.LaidTab
import Derived.Lib.SmallJoins
namespace Go.Proofs.YtnogmgnbhcmajaaDoor
open Go.ChangeShapes Go.WideShapes Go.ChangeAt Go.RowKit Go.Joins Go.Deep Wal

/-- An Op. -/
structure OT where
  kind : Nat
  key : List Nat
  val : List Nat
  most : Int
structure OTGood (o : OT) : Prop where
  k8 : ∀ x ∈ o.key, x < 256
  v8 : ∀ x ∈ o.val, x < 256
  lo : -9223372036854775808 ≤ o.most
  hi : o.most ≤ 9223372036854775807
def OT.cells (o : OT) : Array Value := #[.int .u8 (o.kind : Int), .string (strB o.key), .string (strB o.val), .int .i64 o.most]
theorem roomy_full {n : Nat} {f : Nat → Option KB} {root : Nat} {es : List En} {bs hs : List Nat} (h : Tree f root es bs) (hf : Full n f bs hs) (h1 : es.length < 4096) (h2 : 2 * es.length + hs.length + 29 ≤ n) : Roomy n f root es bs :=
  roomy (m := 12) (by omega) (by omega) (by have := hf.cnt; have := h.few; omega)
theorem own : ownKnob Tryd.prog.godebug = none := by kernel_rfl
theorem laidOut : laidOutB Tryd.prog = true := by kernel_rfl
/-- Nothing of what the rows list is asked by the walks. -/
def Env (_ : World) : Prop := True
noncomputable def lst : List (String × DataW Unit) := Rows.btreeMemUptoRow.laid
theorem env_of {W : World} (_ : laidMetH Tryd.prog lst W) : Env W := trivial
/-- The heap that the program's own start leaves, and utf8's table beside: it meets the list. -/
noncomputable def startW (os : Os) : World :=
  { World.doorLaid Tryd.prog 19 os with heap := (World.doorLaid Tryd.prog 19 os).heap.modify 1 fun
      | .cells _ t frozen => .cells (Lib.firstTab.map fun z => Value.int .u8 z).toArray t frozen
      | o => o }
theorem door_met (os : Os) (args : Array Value) : laidMet Tryd.prog lst ((startW os).forCall (fun _ _ => 0) ⟨#[], args, []⟩).memory :=
  laidMet_of_run' 8 (by kernel_rfl) (by kernel_rfl)
section
variable {H : Type} {enc : TypeId × Value → H} {W : World}
theorem cells06 : Tryd.prog.cellsOf 29 = 4 := by kernel_rfl
theorem wf64 {z : Int} (h : (Lit.int .i64 z).wf = true) : -9223372036854775808 ≤ z ∧ z ≤ 9223372036854775807 := by
  simpa [Lit.wf, IntKind.min, IntKind.max, IntKind.signed, IntKind.bits] using h
theorem trod_struct4 {P : Program} {w : World} {base : Nat} {spare : Nat → Bool} {held : Bool} {t : TypeId} {f0 f1 f2 f3 : Field} {fuel : Nat} {cs : List Value} {x : DataW H × List MemPlace} (ht : P.underlying t = some (.struct #[f0, f1, f2, f3])) (h : DataW.trod enc P w base spare held fuel t cs = some x) :
    ∃ y0 y1 y2 y3 n, cs.length = P.cellsOf t ∧ DataW.trod enc P w base spare held n f0.type ((cs.drop f0.offset).take (P.cellsOf f0.type)) = some y0 ∧
      DataW.trod enc P w base spare held n f1.type ((cs.drop f1.offset).take (P.cellsOf f1.type)) = some y1 ∧ DataW.trod enc P w base spare held n f2.type ((cs.drop f2.offset).take (P.cellsOf f2.type)) = some y2 ∧
      DataW.trod enc P w base spare held n f3.type ((cs.drop f3.offset).take (P.cellsOf f3.type)) = some y3 := by
  obtain ⟨xs, n, _, rfl, hl, hlen, hf⟩ := DataW.trod_struct ht h
  match xs, hlen with
  | [y0, y1, y2, y3], _ => exact ⟨y0, y1, y2, y3, n, hl, by simpa using hf 0 f0 rfl, by simpa using hf 1 f1 rfl, by simpa using hf 2 f2 rfl, by simpa using hf 3 f3 rfl⟩
theorem trod_struct2 {P : Program} {w : World} {base : Nat} {spare : Nat → Bool} {held : Bool} {t : TypeId} {f0 f1 : Field} {fuel : Nat} {cs : List Value} {x : DataW H × List MemPlace} (ht : P.underlying t = some (.struct #[f0, f1])) (h : DataW.trod enc P w base spare held fuel t cs = some x) :
    ∃ y0 y1 n, cs.length = P.cellsOf t ∧ DataW.trod enc P w base spare held n f0.type ((cs.drop f0.offset).take (P.cellsOf f0.type)) = some y0 ∧
      DataW.trod enc P w base spare held n f1.type ((cs.drop f1.offset).take (P.cellsOf f1.type)) = some y1 := by
  obtain ⟨xs, n, _, rfl, hl, hlen, hf⟩ := DataW.trod_struct ht h
  match xs, hlen with
  | [y0, y1], _ => exact ⟨y0, y1, n, hl, by simpa using hf 0 f0 rfl, by simpa using hf 1 f1 rfl⟩
set_option maxRecDepth 100000 in
/-- An Op's cells, read. -/
theorem op_of {n : Nat} {cs : List Value} {x : DataW H × List MemPlace} (ht : DataW.trod enc Tryd.prog W 0 (fun _ => true) true n 29 cs = some x) : ∃ o : OT, OTGood o ∧ cs = o.cells.toList := by
  obtain ⟨y0, y1, y2, y3, n2, hlen, h0, h1, h2, h3⟩ := trod_struct4 Tryd.underlying29 ht
  rw [cells06] at hlen
  match cs, hlen with
  | [c0, c1, c2, c3], _ =>
    have k0 : Tryd.prog.cellsOf 5 = 1 := cells5
    have k1 : Tryd.prog.cellsOf 3 = 1 := by kernel_rfl
    have k2 : Tryd.prog.cellsOf 9 = 1 := by kernel_rfl
    simp only [k0] at h0
    simp only [k2] at h1 h2
    simp only [k1] at h3
    obtain ⟨z0, e0, _, w0⟩ := DataW.trod_int Tryd.underlying5 (show DataW.trod enc Tryd.prog W 0 (fun _ => true) true n2 5 [c0] = some y0 from h0)
    obtain ⟨z1, e1, _, _⟩ := DataW.trod_string Tryd.underlying9 (show DataW.trod enc Tryd.prog W 0 (fun _ => true) true n2 9 [c1] = some y1 from h1)
    obtain ⟨z2, e2, _, _⟩ := DataW.trod_string Tryd.underlying9 (show DataW.trod enc Tryd.prog W 0 (fun _ => true) true n2 9 [c2] = some y2 from h2)
    obtain ⟨z3, e3, _, w3⟩ := DataW.trod_int Tryd.underlying3 (show DataW.trod enc Tryd.prog W 0 (fun _ => true) true n2 3 [c3] = some y3 from h3)
    injection e0 with e0
    injection e1 with e1
    injection e2 with e2
    injection e3 with e3
    have u := u8_nat w0
    have w64 := wf64 w3
    refine ⟨⟨z0.toNat, nums z1, nums z2, z3⟩, ⟨nums_lt _, nums_lt _, w64.1, w64.2⟩, ?_⟩
    have ez : c0 = .int .u8 ((z0.toNat : Nat) : Int) := by rw [u.1, e0]
    rw [ez, e1, e2, e3]
    unfold OT.cells
    rw [strB_nums, strB_nums]
/-- A script of n Ops, read. -/
def OpsAt (w : World) (A : Option Addr) (n : Nat) (l : Nat → OT) : Prop :=
  (∀ i, i < n → OTGood (l i)) ∧ (0 < n → ∃ b off, A = some ⟨b, off, none⟩ ∧ b < w.heap.size ∧ ∀ i, i < n → ∀ j, j < 4 → w.cell? ⟨b, off + i * 4 + j, none⟩ = (l i).cells.toList[j]?)
theorem OpsAt.kept {w w' : World} {A : Option Addr} {n : Nat} {l : Nat → OT} (h : OpsAt w A n l) (hb : Below w.heap.size w w') : OpsAt w' A n l :=
  ⟨h.1, fun hn => by
    obtain ⟨b, off, e, hl, hc⟩ := h.2 hn
    exact ⟨b, off, e, Nat.lt_of_lt_of_le hl hb.size, fun i hi j hj => (hb.cell (p := ⟨b, off + i * 4 + j, none⟩) hl).trans (hc i hi j hj)⟩⟩
set_option maxRecDepth 100000 in
theorem open_ops06 {r : Reach} {b0 : Nat} {v : Value} {d : DataW H} {p : List MemPlace} (hv : Value.okWide Tryd.prog W r b0 22 v) (h : DataW.Trod enc Tryd.prog W 0 (fun _ => true) true 22 v d p) :
    ∃ A n c l, v = .slice A n c ∧ OpsAt W A n l ∧ n ≤ 9223372036854775807 := by
  obtain ⟨A, n, c, rfl⟩ := okWide_slice Tryd.underlying22 hv
  obtain ⟨fuel, hf⟩ := h
  rcases open_slice Tryd.underlying22 hf with ⟨hcs, hx⟩ | ⟨a, len, cap, m, n', D, Pl, hcs, _, hl, hm, hmm, hx, hc⟩
  · simp [Value.cells] at hcs
    obtain ⟨rfl, rfl, rfl⟩ := hcs
    exact ⟨none, 0, 0, fun _ => ⟨0, [], [], 0⟩, rfl, ⟨fun i hi => by omega, fun h => by omega⟩, by omega⟩
  · simp [Value.cells] at hcs
    obtain ⟨rfl, rfl, rfl⟩ := hcs
    simp only [if_true] at hmm
    subst hmm
    have key : ∀ i, i < m → ∃ o : OT, OTGood o ∧ ∀ j, j < 4 → W.cell? (a.add (i * 4 + j)) = o.cells.toList[j]? := fun i hi => by
      obtain ⟨cs', hcells, ht⟩ := hc i hi
      rw [cells06] at hcells
      obtain ⟨_, hlen, hat⟩ := World.cells?_some hcells
      obtain ⟨o, ho, rfl⟩ := op_of ht
      refine ⟨o, ho, fun j hj => ?_⟩
      have b := hat j hj
      rw [Go.Deep.add_add] at b
      exact b
    have inh : Inhabited OT := ⟨⟨0, [], [], 0⟩⟩
    obtain ⟨f, hf'⟩ := choose_lt (α := OT) (p := fun i o => OTGood o ∧ ∀ j, j < 4 → W.cell? (a.add (i * 4 + j)) = o.cells.toList[j]?) key
    refine ⟨some a, n, m, f, rfl, ⟨fun i hi => (hf' i (by omega)).1, fun hp => ?_⟩, (by unfold maxLen at hm; omega)⟩
    obtain ⟨b, off, spot⟩ := a
    have h0 := (hf' 0 (by omega)).2 0 (by omega)
    have h00 : W.cell? ((⟨b, off, spot⟩ : Addr).add 0) = some (.int .u8 ((f 0).kind : Int)) := h0
    have hspot : spot = none := by
      have := World.cell?_spot h00
      simpa [Addr.add] using this
    subst hspot
    refine ⟨b, off, rfl, by simpa [Addr.add] using block_lt h00, fun i hi j hj => ?_⟩
    have h1 := (hf' i (by omega)).2 j hj
    have e1 : (⟨b, off, none⟩ : Addr).add (i * 4 + j) = ⟨b, off + i * 4 + j, none⟩ := by rw [add_plain, Nat.add_assoc]
    rw [← e1]
    exact h1
end
end Go.Proofs.YtnogmgnbhcmajaaDoor
