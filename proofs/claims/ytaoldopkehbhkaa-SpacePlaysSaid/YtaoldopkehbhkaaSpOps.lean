/-
  space: a script of Ops that came in.
-/
import Derived.Test.YtaoldopkehbhkaaOps
import Derived.Test.YtaoldopkehbhkaaSp8
namespace Go.Proofs.Ytaoldopkehbhkaa
open Go.ChangeShapes Go.WideShapes Go.ChangeAt Go.RowKit Go.Joins Go.Deep Go.Maps Wal
section
variable {H : Type} {enc : TypeId × Value → H} {W : World}
theorem cellsSOp : Try.prog.cellsOf 36 = 2 := by kernel_rfl
/-- A script of n Ops, read: each a kind and a number. -/
def SOps (w : World) (A : Option Addr) (n : Nat) (l : Nat → Nat × Int) : Prop :=
  (∀ i, i < n → (l i).1 < 256 ∧ -9223372036854775808 ≤ (l i).2 ∧ (l i).2 ≤ 9223372036854775807) ∧ (0 < n → ∃ b off, A = some ⟨b, off, none⟩ ∧ b < w.heap.size ∧ ∀ i, i < n → w.cell? ⟨b, off + i * 2, none⟩ = some (.int .u8 ((l i).1 : Int)) ∧ w.cell? ⟨b, off + i * 2 + 1, none⟩ = some (.int .i64 (l i).2))
theorem SOps.kept {w w' : World} {A : Option Addr} {n : Nat} {l : Nat → Nat × Int} (h : SOps w A n l) (hb : Below w.heap.size w w') : SOps w' A n l :=
  ⟨h.1, fun hn => by
    obtain ⟨b, off, e, hl, hc⟩ := h.2 hn
    exact ⟨b, off, e, Nat.lt_of_lt_of_le hl hb.size, fun i hi => ⟨(hb.cell (p := ⟨b, off + i * 2, none⟩) hl).trans (hc i hi).1, (hb.cell (p := ⟨b, off + i * 2 + 1, none⟩) hl).trans (hc i hi).2⟩⟩⟩
theorem s64_wf {z : Int} (h : (Lit.int .i64 z).wf = true) : -9223372036854775808 ≤ z ∧ z ≤ 9223372036854775807 := by
  simpa [Lit.wf, IntKind.min, IntKind.max, IntKind.signed, IntKind.bits] using h
set_option maxRecDepth 100000 in
theorem open_sops {r : Reach} {b0 : Nat} {v : Value} {d : DataW H} {p : List MemPlace} (hv : Value.okWide Try.prog W r b0 22 v) (h : DataW.Trod enc Try.prog W 0 (fun _ => true) true 22 v d p) :
    ∃ A n c l, v = .slice A n c ∧ SOps W A n l ∧ n ≤ 9223372036854775807 := by
  obtain ⟨A, n, c, rfl⟩ := okWide_slice Try.underlying22 hv
  obtain ⟨fuel, hf⟩ := h
  rcases open_slice Try.underlying22 hf with ⟨hcs, hx⟩ | ⟨a, len, cap, m, n', D, Pl, hcs, _, hl, hm, hmm, hx, hc⟩
  · simp [Value.cells] at hcs
    obtain ⟨rfl, rfl, rfl⟩ := hcs
    exact ⟨none, 0, 0, fun _ => (0, 0), rfl, ⟨fun i hi => by omega, fun h => by omega⟩, by omega⟩
  · simp [Value.cells] at hcs
    obtain ⟨rfl, rfl, rfl⟩ := hcs
    simp only [if_true] at hmm
    subst hmm
    have key : ∀ i, i < m → ∃ o : Nat × Int, (o.1 < 256 ∧ -9223372036854775808 ≤ o.2 ∧ o.2 ≤ 9223372036854775807) ∧ W.cell? (a.add (i * 2)) = some (.int .u8 (o.1 : Int)) ∧ W.cell? (a.add (i * 2 + 1)) = some (.int .i64 o.2) := fun i hi => by
      obtain ⟨cs', hcells, ht⟩ := hc i hi
      rw [cellsSOp] at hcells
      obtain ⟨_, hlen, hat⟩ := World.cells?_some hcells
      obtain ⟨y0, y1, n2, hy, _, h0, h1⟩ := trod_struct2 Try.underlying36 ht
      match cs', hlen with
      | [c0, c1], _ =>
        have k0 : Try.prog.cellsOf 5 = 1 := cells5
        have k1 : Try.prog.cellsOf 3 = 1 := by kernel_rfl
        simp only [k0] at h0
        simp only [k1] at h1
        obtain ⟨z0, e0, _, w0⟩ := DataW.trod_int Try.underlying5 (show DataW.trod enc Try.prog W 0 (fun _ => true) true n2 5 [c0] = some y0 from h0)
        obtain ⟨z1, e1, _, w1⟩ := DataW.trod_int Try.underlying3 (show DataW.trod enc Try.prog W 0 (fun _ => true) true n2 3 [c1] = some y1 from h1)
        injection e0 with e0
        injection e1 with e1
        have u := u8_nat w0
        have b1 := hat 0 (by decide)
        have b2 := hat 1 (by decide)
        rw [Go.Deep.add_add] at b1 b2
        refine ⟨(z0.toNat, z1), ⟨u.2, s64_wf w1⟩, ?_, ?_⟩
        · refine b1.trans ?_
          show some c0 = some (Value.int .u8 ((z0.toNat : Nat) : Int))
          rw [u.1, e0]
        · refine b2.trans ?_
          show some c1 = _
          rw [e1]
    obtain ⟨f, hf'⟩ := choose_lt (α := Nat × Int) (p := fun i o => (o.1 < 256 ∧ -9223372036854775808 ≤ o.2 ∧ o.2 ≤ 9223372036854775807) ∧ W.cell? (a.add (i * 2)) = some (.int .u8 (o.1 : Int)) ∧ W.cell? (a.add (i * 2 + 1)) = some (.int .i64 o.2)) key
    refine ⟨some a, n, m, f, rfl, ⟨fun i hi => (hf' i (by omega)).1, fun hp => ?_⟩, (by unfold maxLen at hm; omega)⟩
    obtain ⟨b, off, spot⟩ := a
    have h0 := (hf' 0 (by omega)).2.1
    have hspot : spot = none := by
      have := World.cell?_spot h0
      simpa [Addr.add] using this
    subst hspot
    refine ⟨b, off, rfl, by simpa [Addr.add] using block_lt h0, fun i hi => ?_⟩
    obtain ⟨_, h1, h2⟩ := hf' i (by omega)
    have e1 : (⟨b, off, none⟩ : Addr).add (i * 2) = ⟨b, off + i * 2, none⟩ := by rw [add_plain]
    have e2 : (⟨b, off, none⟩ : Addr).add (i * 2 + 1) = ⟨b, off + i * 2 + 1, none⟩ := by rw [add_plain]; congr 1
    rw [← e1, ← e2]
    exact ⟨h1, h2⟩
end
end Go.Proofs.Ytaoldopkehbhkaa
