/-
  blob's law: a script of Ops that came in.
-/
import Derived.Test.YtlofpbmceipkkaaM36
import Derived.Lib.SmallJoins
import Derived.Deep.Slices
import Derived.Deep.Grids
namespace Go.Proofs.Ytlofpbmceipkkaa
open Go.ChangeShapes Go.WideShapes Go.ChangeAt Go.RowKit Go.Joins Go.Deep

structure OB where
  kind : Nat
  data : ByteArray
  i : Int
  fr : Int
  n : Int
instance : Inhabited OB := ⟨⟨0, ⟨#[]⟩, 0, 0, 0⟩⟩
structure OBGood (o : OB) : Prop where
  k : o.kind < 256
  s : o.data.size ≤ maxLen
  i : -9223372036854775808 ≤ o.i ∧ o.i ≤ 9223372036854775807
  fr : -9223372036854775808 ≤ o.fr ∧ o.fr ≤ 9223372036854775807
  n : -9223372036854775808 ≤ o.n ∧ o.n ≤ 9223372036854775807
def OB.cells (o : OB) : List Value := [.int .u8 (o.kind : Int), .string o.data, .int .i64 o.i, .int .i64 o.fr, .int .i64 o.n]
section
variable {H : Type} {enc : TypeId × Value → H} {W : World}
theorem cellsBOp : Try.prog.cellsOf 28 = 5 := by kernel_rfl
/-- A script of n Ops, read. -/
def BOps (w : World) (A : Option Addr) (n : Nat) (l : Nat → OB) : Prop :=
  (∀ i, i < n → OBGood (l i)) ∧ (0 < n → ∃ b off, A = some ⟨b, off, none⟩ ∧ b < w.heap.size ∧ ∀ i, i < n → ∀ j, j < 5 → w.cell? ⟨b, off + i * 5 + j, none⟩ = (l i).cells[j]?)
theorem BOps.kept {w w' : World} {A : Option Addr} {n : Nat} {l : Nat → OB} (h : BOps w A n l) (hb : Below w.heap.size w w') : BOps w' A n l :=
  ⟨h.1, fun hn => by
    obtain ⟨b, off, e, hl, hc⟩ := h.2 hn
    exact ⟨b, off, e, Nat.lt_of_lt_of_le hl hb.size, fun i hi j hj => (hb.cell (p := ⟨b, off + i * 5 + j, none⟩) hl).trans (hc i hi j hj)⟩⟩
theorem wf64 {z : Int} (h : (Lit.int .i64 z).wf = true) : -9223372036854775808 ≤ z ∧ z ≤ 9223372036854775807 := by
  simpa [Lit.wf, IntKind.min, IntKind.max, IntKind.signed, IntKind.bits] using h
theorem trod_struct5 {P : Program} {w : World} {base : Nat} {spare : Nat → Bool} {held : Bool} {t : TypeId} {f0 f1 f2 f3 f4 : Field} {fuel : Nat} {cs : List Value} {x : DataW H × List MemPlace} (ht : P.underlying t = some (.struct #[f0, f1, f2, f3, f4])) (h : DataW.trod enc P w base spare held fuel t cs = some x) :
    ∃ y0 y1 y2 y3 y4 n, cs.length = P.cellsOf t ∧ DataW.trod enc P w base spare held n f0.type ((cs.drop f0.offset).take (P.cellsOf f0.type)) = some y0 ∧
      DataW.trod enc P w base spare held n f1.type ((cs.drop f1.offset).take (P.cellsOf f1.type)) = some y1 ∧ DataW.trod enc P w base spare held n f2.type ((cs.drop f2.offset).take (P.cellsOf f2.type)) = some y2 ∧
      DataW.trod enc P w base spare held n f3.type ((cs.drop f3.offset).take (P.cellsOf f3.type)) = some y3 ∧ DataW.trod enc P w base spare held n f4.type ((cs.drop f4.offset).take (P.cellsOf f4.type)) = some y4 := by
  obtain ⟨xs, n, _, rfl, hl, hlen, hf⟩ := DataW.trod_struct ht h
  match xs, hlen with
  | [y0, y1, y2, y3, y4], _ => exact ⟨y0, y1, y2, y3, y4, n, hl, by simpa using hf 0 f0 rfl, by simpa using hf 1 f1 rfl, by simpa using hf 2 f2 rfl, by simpa using hf 3 f3 rfl, by simpa using hf 4 f4 rfl⟩
set_option maxRecDepth 100000 in
theorem open_bops {r : Reach} {b0 : Nat} {v : Value} {d : DataW H} {p : List MemPlace} (hv : Value.okWide Try.prog W r b0 22 v) (h : DataW.Trod enc Try.prog W 0 (fun _ => true) true 22 v d p) :
    ∃ A n c l, v = .slice A n c ∧ BOps W A n l ∧ n ≤ 9223372036854775807 := by
  obtain ⟨A, n, c, rfl⟩ := okWide_slice Try.underlying22 hv
  obtain ⟨fuel, hf⟩ := h
  rcases open_slice Try.underlying22 hf with ⟨hcs, hx⟩ | ⟨a, len, cap, m, n', D, Pl, hcs, _, hl, hm, hmm, hx, hc⟩
  · simp [Value.cells] at hcs
    obtain ⟨rfl, rfl, rfl⟩ := hcs
    exact ⟨none, 0, 0, fun _ => default, rfl, ⟨fun i hi => by omega, fun h => by omega⟩, by omega⟩
  · simp [Value.cells] at hcs
    obtain ⟨rfl, rfl, rfl⟩ := hcs
    simp only [if_true] at hmm
    subst hmm
    have key : ∀ i, i < m → ∃ o : OB, OBGood o ∧ ∀ j, j < 5 → W.cell? (a.add (i * 5 + j)) = o.cells[j]? := fun i hi => by
      obtain ⟨cs', hcells, ht⟩ := hc i hi
      rw [cellsBOp] at hcells
      obtain ⟨_, hlen, hat⟩ := World.cells?_some hcells
      obtain ⟨y0, y1, y2, y3, y4, n2, _, h0, h1, h2, h3, h4⟩ := trod_struct5 Try.underlying28 ht
      match cs', hlen with
      | [c0, c1, c2, c3, c4], _ =>
        have k0 : Try.prog.cellsOf 5 = 1 := cells5
        have k1 : Try.prog.cellsOf 3 = 1 := by kernel_rfl
        have k2 : Try.prog.cellsOf 9 = 1 := by kernel_rfl
        simp only [k0] at h0
        simp only [k2] at h1
        simp only [k1] at h2 h3 h4
        obtain ⟨z0, e0, _, w0⟩ := DataW.trod_int Try.underlying5 (show DataW.trod enc Try.prog W 0 (fun _ => true) true n2 5 [c0] = some y0 from h0)
        obtain ⟨z1, e1, _, w1⟩ := DataW.trod_string Try.underlying9 (show DataW.trod enc Try.prog W 0 (fun _ => true) true n2 9 [c1] = some y1 from h1)
        obtain ⟨z2, e2, _, w2⟩ := DataW.trod_int Try.underlying3 (show DataW.trod enc Try.prog W 0 (fun _ => true) true n2 3 [c2] = some y2 from h2)
        obtain ⟨z3, e3, _, w3⟩ := DataW.trod_int Try.underlying3 (show DataW.trod enc Try.prog W 0 (fun _ => true) true n2 3 [c3] = some y3 from h3)
        obtain ⟨z4, e4, _, w4⟩ := DataW.trod_int Try.underlying3 (show DataW.trod enc Try.prog W 0 (fun _ => true) true n2 3 [c4] = some y4 from h4)
        injection e0 with e0
        injection e1 with e1
        injection e2 with e2
        injection e3 with e3
        injection e4 with e4
        have u := u8_nat w0
        refine ⟨⟨z0.toNat, z1, z2, z3, z4⟩, ⟨u.2, w1, wf64 w2, wf64 w3, wf64 w4⟩, fun j hj => ?_⟩
        have b := hat j hj
        rw [Go.Deep.add_add] at b
        refine b.trans ?_
        have ez : c0 = .int .u8 ((z0.toNat : Nat) : Int) := by rw [u.1, e0]
        rw [ez, e1, e2, e3, e4]
        rfl
    obtain ⟨f, hf'⟩ := choose_lt (α := OB) (p := fun i o => OBGood o ∧ ∀ j, j < 5 → W.cell? (a.add (i * 5 + j)) = o.cells[j]?) key
    refine ⟨some a, n, m, f, rfl, ⟨fun i hi => (hf' i (by omega)).1, fun hp => ?_⟩, (by unfold maxLen at hm; omega)⟩
    obtain ⟨b, off, spot⟩ := a
    have h0 := (hf' 0 (by omega)).2 0 (by omega)
    have h00 : W.cell? ((⟨b, off, spot⟩ : Addr).add 0) = some (.int .u8 ((f 0).kind : Int)) := h0
    have hspot : spot = none := by
      have := World.cell?_spot h00
      simpa [Addr.add] using this
    subst hspot
    refine ⟨b, off, rfl, by simpa [Addr.add] using block_lt h00, fun i hi j hj => ?_⟩
    have h1 := (hf' i (by omega)).2 j hj
    have e1 : (⟨b, off, none⟩ : Addr).add (i * 5 + j) = ⟨b, off + i * 5 + j, none⟩ := by rw [add_plain, Nat.add_assoc]
    rw [← e1]
    exact h1
end
end Go.Proofs.Ytlofpbmceipkkaa
