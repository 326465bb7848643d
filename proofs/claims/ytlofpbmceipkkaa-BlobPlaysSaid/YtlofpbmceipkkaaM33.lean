/-
  A slice of uint16 that came in; a string appended to bytes of the call's own.
-/
import Derived.Test.YtlofpbmceipkkaaM32
import Derived.Lib.AppendStr
namespace Go.Proofs.Ytlofpbmceipkkaa
open Go.ChangeShapes Go.WideShapes Go.ChangeAt Go.RowKit Wal Blob

/-- A slice of numbers up to 65535. -/
def Shorts (w : World) (A : Option Addr) (n : Nat) (zs : Nat → Int) : Prop := 0 < n → ∃ b off, A = some ⟨b, off, none⟩ ∧ b < w.heap.size ∧ ∀ i, i < n → w.cell? ⟨b, off + i, none⟩ = some (.int .u16 (zs i)) ∧ 0 ≤ zs i ∧ zs i ≤ 65535
theorem Shorts.below {w w' : World} {A : Option Addr} {n : Nat} {zs : Nat → Int} (h : Shorts w A n zs) (k : Below w.heap.size w w') : Shorts w' A n zs := fun hp => by
  obtain ⟨b, off, e, hl, hc⟩ := h hp
  exact ⟨b, off, e, Nat.lt_of_lt_of_le hl k.size, fun i hi => ⟨(k.cell (p := ⟨b, off + i, none⟩) hl).trans (hc i hi).1, (hc i hi).2⟩⟩
theorem cells16 : Try.prog.cellsOf 41 = 1 := by kernel_rfl
set_option maxRecDepth 100000 in
theorem open_shorts {H : Type} {enc : TypeId × Value → H} {W : World} {r : Reach} {base : Nat} {v : Value} {d : DataW H} {p : List MemPlace}
    (hok : Value.okWide Try.prog W r base 42 v) (hd : DataW.Trod enc Try.prog W 0 (fun _ => true) true 42 v d p) :
    ∃ A n c zs, v = .slice A n c ∧ n ≤ c ∧ c ≤ maxLen ∧ Shorts W A n zs ∧ (n = 0 ∨ ∃ elems spare, d = .slice elems spare ∧ elems.length = n) := by
  obtain ⟨A, n, c, rfl⟩ := okWide_slice Try.underlying42 hok
  obtain ⟨fuel, hf⟩ := hd
  rcases open_ints Try.underlying42 Try.underlying41 cells16 hf with ⟨hcs, hx⟩ | ⟨x, l, c', zs, hcs, _, hl, hm, hz, hx, hcell, hwz⟩
  · simp [Value.cells] at hcs
    obtain ⟨rfl, rfl, rfl⟩ := hcs
    exact ⟨none, 0, 0, fun _ => 0, rfl, Nat.le_refl _, Nat.zero_le _, fun h => by omega, .inl rfl⟩
  · simp [Value.cells] at hcs
    obtain ⟨rfl, rfl, rfl⟩ := hcs
    simp only [if_true] at hz
    simp only [Prod.mk.injEq] at hx
    refine ⟨some x, n, c, fun i => zs.getD i 0, rfl, hl, hm, fun hp => ?_, .inr ⟨_, _, hx.1, by simp [lits]; omega⟩⟩
    obtain ⟨b, off, spot⟩ := x
    have h0 := hcell 0 (by omega)
    have hspot : spot = none := by simpa [Addr.add] using World.cell?_spot h0
    subst hspot
    refine ⟨b, off, rfl, by simpa [Addr.add] using block_lt h0, fun i hi => ?_⟩
    have h1 := hcell i (by omega)
    have hi' : i < zs.length := by omega
    have h5 : (⟨b, off, none⟩ : Addr).add i = ⟨b, off + i, none⟩ := by
      cases i <;> simp [Addr.add]
    rw [h5] at h1
    have hw := hwz (zs.getD i 0) (by rw [List.getD_eq_getElem?_getD, List.getElem?_eq_getElem hi']; exact List.getElem_mem hi')
    exact ⟨h1, by simpa [Lit.wf, IntKind.min, IntKind.max, IntKind.signed, IntKind.bits] using hw⟩
theorem strCells_of {l : List Nat} (h : ∀ x ∈ l, x < 256) : Lib.strCells (strB l) = l.map u8v := byteCells_strB h
set_option maxRecDepth 100000 in
theorem wpList_append_bstr {w : World} {ops : Array Oper} {rest : List Oper} {o : Oper} {a : Act} {Q : Exit → Act → World → Prop} (hgd : o.guard = none) (sl x : Operand)
    (ho : o.op = .call { callee := .builtin .append, args := #[sl, x], argTypes := #[45, 9] }) (base : Nat) (v : Value) (k : List Nat) (hs : a.eval sl = v) (hown : OwnB w base 5 v k) (l : List Nat) (hx : a.eval x = .string (strB l)) (h8 : ∀ x ∈ l, x < 256)
    (hb : k.length + l.length ≤ 100000) (hbase : base ≤ w.heap.size)
    (h : ∀ v' w', OwnB w' base 5 v' (k ++ l) → w.grownBy w' v.ownBlock → wpList Try.prog ops Q rest (a.put o.dst v') w') : wpList Try.prog ops Q (o :: rest) a w := by
  obtain ⟨i, hi, hz, hsize, hby⟩ := info_parts info5
  have sz := strB_size l
  refine Lib.wpList_append_own_string w hgd sl x 45 9 ho base 5 i Try.underlying45 Try.underlying9 hi hz hsize hby v k.length _ hs hown.1 (strB l) hx (by rw [sz]; unfold maxLen; omega) (by rw [sz]; omega) hbase (fun v' w' h1 h2 _ => h v' w' ⟨?_, fun y hy => ?_⟩ h2)
  · rw [sz, strCells_of h8, ← List.map_append, ← List.length_append] at h1
    exact h1
  · rcases List.mem_append.1 hy with hy | hy
    · exact hown.2 y hy
    · exact h8 y hy
theorem OwnB.kp {B : Nat} {w w' : World} {base : Nat} {v : Value} {l : List Nat} (h : OwnB w base 5 v l) (k : Kp B w w') : OwnB w' base 5 v l := ⟨k.row h.1 (by decide) (by decide), h.2⟩
theorem grownB_held {w w' : World} {base e : Nat} {v : Value} {l : List Nat} (h : OwnB w base e v l) (hg : w.grownBy w' v.ownBlock) {r t : Nat} {cs : Array Value} (k : Held w r t cs) (ht : t ≠ e) : Held w' r t cs :=
  (hg.block r k.lt (fun q => Held.ne_row k h.1 (Ne.symm ht) r q.symm rfl)).trans k
theorem MemAt.grownB_ {B p n : Nat} {f : Nat → Option KB} {w w' : World} {base : Nat} {v : Value} {l : List Nat} (m : MemAt B w p n f) (h : OwnB w base 5 v l) (hg : w.grownBy w' v.ownBlock) : MemAt B w' p n f := by
  obtain ⟨g, ad, m⟩ := m
  exact ⟨g, ad, grownB_held h hg m.blk (by decide), grownB_held h hg m.row (by decide), fun i x hx => by
    obtain ⟨a1, a2, a3⟩ := m.each i x hx
    exact ⟨a1, grownB_held h hg a2 (by decide), a3⟩, m.inj, m.base, m.small⟩
end Go.Proofs.Ytlofpbmceipkkaa
