/-
  The laws' arguments of layer 2, opened: slices of bools, an Op by value, slices of Ops.
-/
import Derived.Test.YtaoldopkehbhkaaDiskE
import Derived.Lib.SmallJoins
import Derived.Lib.ConvBytes
import Derived.Deep.Slices
import Derived.Deep.Grids
namespace Go.Proofs.Ytaoldopkehbhkaa
open Go.ChangeShapes Go.WideShapes Go.ChangeAt Go.RowKit Go.Joins Go.Deep

theorem cellsB : Try.prog.cellsOf 4 = 1 := by kernel_rfl
section
variable {H : Type} {enc : TypeId × Value → H} {W : World}
set_option maxRecDepth 100000 in
/-- A slice of bools that came in. -/
theorem open_bls {fuel : Nat} {v : Value} {x : DataW H × List MemPlace} (h : DataW.trod enc Try.prog W 0 (fun _ => true) true fuel 44 [v] = some x) :
    ∃ A n c l, v = .slice A n c ∧ Bls W A n l ∧ n ≤ 9223372036854775807 ∧ (0 < n → ∀ a, A = some a → a.block < W.heap.size) ∧ ((x.1 = .nil ∧ n = 0) ∨ ∃ elems spare, x.1 = .slice elems spare ∧ elems.length = n) := by
  rcases open_bools Try.underlying44 Try.underlying4 cellsB h with ⟨hcs, hx⟩ | ⟨a, len, cap, B, hcs, _, hl, hm, hx, hc⟩
  · injection hcs with hcs
    exact ⟨none, 0, 0, [], hcs, ⟨rfl, fun h => by omega⟩, by omega, fun h => by omega, .inl ⟨by rw [hx], rfl⟩⟩
  · injection hcs with hcs
    have hm' : len ≤ 9223372036854775807 := by unfold maxLen at hm; omega
    refine ⟨some a, len, cap, (List.range len).map B, hcs, ⟨by simp, fun hp => ?_⟩, hm', fun hp b hb => ?_, .inr ⟨_, _, by rw [hx]; rfl, by simp⟩⟩
    · obtain ⟨b, off, spot⟩ := a
      have h0 := hc 0 (by omega)
      have hspot : spot = none := by simpa [Addr.add] using World.cell?_spot h0
      subst hspot
      refine ⟨b, off, rfl, by simpa [Addr.add] using block_lt h0, fun i hi => ?_⟩
      have h1 := hc i (by omega)
      have e : (⟨b, off, none⟩ : Addr).add i = ⟨b, off + i, none⟩ := by cases i <;> simp [Addr.add]
      rw [← e, h1]
      have e2 : ((List.range len).map B).getD i false = B i := by
        rw [List.getD_eq_getElem?_getD, List.getElem?_map, List.getElem?_range hi]
        rfl
      rw [e2]
    · injection hb with hb
      subst hb
      have h0 := hc 0 (by omega)
      simpa [Addr.add] using block_lt h0

/-- An Op, read. -/
structure OpD where
  kind : Nat
  i : Int
  data : ByteArray
  A : Option Addr
  n : Nat
  c : Nat
  keep : List Bool

instance : Inhabited OpD := ⟨⟨0, 0, ⟨#[]⟩, none, 0, 0, []⟩⟩

structure OpGood (W : World) (o : OpD) : Prop where
  k : o.kind < 256
  i0 : -9223372036854775808 ≤ o.i
  i1 : o.i ≤ 9223372036854775807
  s : o.data.size ≤ 9223372036854775807
  keep : Bls W o.A o.n o.keep
  n : o.n ≤ 9223372036854775807
  lt : 0 < o.n → ∀ a, o.A = some a → a.block < W.heap.size

def OpD.cells (o : OpD) : Array Value := #[.int .u8 (o.kind : Int), .int .i64 o.i, .string o.data, .slice o.A o.n o.c]

theorem i64_wf {z : Int} (h : (Lit.int .i64 z).wf = true) : -9223372036854775808 ≤ z ∧ z ≤ 9223372036854775807 := by
  simpa [Lit.wf, IntKind.min, IntKind.max, IntKind.signed, IntKind.bits] using h

set_option maxRecDepth 100000 in
theorem open_fields {n : Nat} {v0 v1 v2 v3 : Value} {y0 y1 y2 y3 : DataW H × List MemPlace} (h0 : DataW.trod enc Try.prog W 0 (fun _ => true) true n 5 [v0] = some y0) (h1 : DataW.trod enc Try.prog W 0 (fun _ => true) true n 3 [v1] = some y1)
    (h2 : DataW.trod enc Try.prog W 0 (fun _ => true) true n 9 [v2] = some y2) (h3 : DataW.trod enc Try.prog W 0 (fun _ => true) true n 44 [v3] = some y3) :
    ∃ o : OpD, OpGood W o ∧ v0 = .int .u8 (o.kind : Int) ∧ v1 = .int .i64 o.i ∧ v2 = .string o.data ∧ v3 = .slice o.A o.n o.c := by
  obtain ⟨z0, e0, _, w0⟩ := DataW.trod_int Try.underlying5 h0
  obtain ⟨z1, e1, _, w1⟩ := DataW.trod_int Try.underlying3 h1
  obtain ⟨s, e2, _, w2⟩ := DataW.trod_string Try.underlying9 h2
  obtain ⟨A, m, c, l, e3, hb, hm, hlt, _⟩ := open_bls h3
  injection e0 with e0
  injection e1 with e1
  injection e2 with e2
  have u := u8_nat w0
  have i := i64_wf w1
  refine ⟨⟨z0.toNat, z1, s, A, m, c, l⟩, ⟨u.2, i.1, i.2, by unfold maxLen at w2; omega, hb, hm, hlt⟩, ?_, e1, e2, e3⟩
  rw [e0]
  show Value.int .u8 z0 = .int .u8 ((z0.toNat : Nat) : Int)
  rw [u.1]

/-- A slice of Ops, read. -/
def Ops (w : World) (A : Option Addr) (n : Nat) (l : List OpD) : Prop :=
  l.length = n ∧ (∀ o ∈ l, OpGood w o) ∧ (0 < n → ∃ b off, A = some ⟨b, off, none⟩ ∧ b < w.heap.size ∧ ∀ i o, l[i]? = some o → ∀ j, j < 4 → w.cell? ⟨b, off + i * 4 + j, none⟩ = o.cells[j]?)

theorem OpGood.kept {w' : World} {o : OpD} (h : OpGood W o) (hb : Below W.heap.size W w') : OpGood w' o :=
  ⟨h.k, h.i0, h.i1, h.s, (Only.of_below (F := []) hb).bls h.keep (fun _ _ _ hx => by cases hx), h.n, fun h0 a ha => Nat.lt_of_lt_of_le (h.lt h0 a ha) hb.size⟩
theorem Ops.kept {w' : World} {A : Option Addr} {n : Nat} {l : List OpD} (h : Ops W A n l) (hb : Below W.heap.size W w') : Ops w' A n l :=
  ⟨h.1, fun o ho => (h.2.1 o ho).kept hb, fun hn => by
    obtain ⟨b, off, e, hl, hc⟩ := h.2.2 hn
    exact ⟨b, off, e, Nat.lt_of_lt_of_le hl hb.size, fun i o hi j hj => (hb.cell (p := ⟨b, off + i * 4 + j, none⟩) hl).trans (hc i o hi j hj)⟩⟩
/-- The k-th of the Ops, in memory. -/
theorem Ops.at_ {A : Option Addr} {n k : Nat} {l : List OpD} (h : Ops W A n l) (hk : k < n) : ∃ b off o, A = some ⟨b, off, none⟩ ∧ b < W.heap.size ∧ l[k]? = some o ∧ OpGood W o ∧ l.take (k + 1) = l.take k ++ [o] ∧
    W.cell? ⟨b, off + k * 4, none⟩ = some (.int .u8 (o.kind : Int)) ∧ W.cell? ⟨b, off + k * 4 + 1, none⟩ = some (.int .i64 o.i) ∧ W.cell? ⟨b, off + k * 4 + 2, none⟩ = some (.string o.data) ∧ W.cell? ⟨b, off + k * 4 + 3, none⟩ = some (.slice o.A o.n o.c) := by
  obtain ⟨h1, h2, h3⟩ := h
  obtain ⟨b, off, e, hb, hc⟩ := h3 (by omega)
  have hkl : k < l.length := by omega
  have hx := hc k _ (List.getElem?_eq_getElem hkl)
  exact ⟨b, off, l[k], e, hb, List.getElem?_eq_getElem hkl, h2 _ (List.getElem_mem hkl), List.take_succ_eq_append_getElem hkl, hx 0 (by omega), hx 1 (by omega), hx 2 (by omega), hx 3 (by omega)⟩
end

section
variable {H : Type} {enc : TypeId × Value → H} {W : World}
set_option maxRecDepth 100000 in
/-- An argument of type uint8. -/
theorem open_u8 {r : Reach} {b0 : Nat} {v : Value} {d : DataW H} {p : List MemPlace} (hv : Value.okWide Try.prog W r b0 5 v) (h : DataW.Trod enc Try.prog W 0 (fun _ => true) true 5 v d p) : ∃ x : Nat, v = .int .u8 (x : Int) ∧ x < 256 := by
  obtain ⟨z, rfl⟩ := okWide_int Try.underlying5 hv
  obtain ⟨fuel, hf⟩ := h
  obtain ⟨z0, e0, _, w0⟩ := DataW.trod_int Try.underlying5 hf
  simp [Value.cells] at e0
  subst e0
  have u := u8_nat w0
  exact ⟨z.toNat, by rw [u.1], u.2⟩
set_option maxRecDepth 100000 in
/-- An argument of type int. -/
theorem open_i64 {r : Reach} {b0 : Nat} {v : Value} {d : DataW H} {p : List MemPlace} (hv : Value.okWide Try.prog W r b0 3 v) (h : DataW.Trod enc Try.prog W 0 (fun _ => true) true 3 v d p) : ∃ x : Int, v = .int .i64 x ∧ -9223372036854775808 ≤ x ∧ x ≤ 9223372036854775807 := by
  obtain ⟨z, rfl⟩ := okWide_int Try.underlying3 hv
  obtain ⟨fuel, hf⟩ := h
  obtain ⟨z0, e0, _, w0⟩ := DataW.trod_int Try.underlying3 hf
  simp [Value.cells] at e0
  subst e0
  exact ⟨z, rfl, i64_wf w0⟩
set_option maxRecDepth 100000 in
/-- An argument of type []bool. -/
theorem open_keep {r : Reach} {b0 : Nat} {v : Value} {d : DataW H} {p : List MemPlace} (hv : Value.okWide Try.prog W r b0 44 v) (h : DataW.Trod enc Try.prog W 0 (fun _ => true) true 44 v d p) :
    ∃ A n c l, v = .slice A n c ∧ Bls W A n l ∧ n ≤ 9223372036854775807 ∧ (0 < n → ∀ a, A = some a → a.block < W.heap.size) ∧ ((d = .nil ∧ n = 0) ∨ ∃ elems spare, d = .slice elems spare ∧ elems.length = n) := by
  obtain ⟨A, n, c, rfl⟩ := okWide_slice Try.underlying44 hv
  obtain ⟨fuel, hf⟩ := h
  exact open_bls (x := (d, p)) hf
theorem Bls.kept {w' : World} {A : Option Addr} {n : Nat} {l : List Bool} (h : Bls W A n l) (hb : Below W.heap.size W w') : Bls w' A n l :=
  (Only.of_below (F := []) hb).bls h (fun _ _ _ hx => by cases hx)
end

/-- A string turned into bytes: one new block, nothing else has turned. -/
theorem below_bytesWorld {B : Nat} (w : World) (e : TypeId) (s : ByteArray) (hB : B ≤ w.heap.size) : Below B w (Lib.bytesWorld w e s) :=
  ⟨rfl, rfl, rfl, by rw [Lib.bytesWorld_size]; omega, fun k hk => Lib.bytesWorld_at_old w e s k (by omega)⟩
theorem bts_bytesWorld (w : World) (e : TypeId) (s : ByteArray) {b : Nat} (hb : b = w.heap.size) : Bts (Lib.bytesWorld w e s) (some ⟨b, 0, none⟩) s.size (nums s) := by
  subst hb
  refine ⟨nums_length s, nums_lt s, fun _ => ⟨_, 0, rfl, by rw [Lib.bytesWorld_size]; omega, fun i hi => ?_⟩⟩
  rw [Nat.zero_add, Lib.bytesWorld_cell w e s i hi]
  have hi' : i < s.data.toList.length := by rw [Array.length_toList]; exact hi
  have e1 : (nums s).getD i 0 = (s.data.toList.getD i 0).toNat := by
    unfold nums
    rw [List.getD_eq_getElem?_getD, List.getD_eq_getElem?_getD, List.getElem?_map, List.getElem?_eq_getElem hi']
    rfl
  rw [e1]
end Go.Proofs.Ytaoldopkehbhkaa
