/-
  Slices of a pager's lives, opened. · PagerCrash: what a life leaves for both sides.
-/
import Derived.Test.YtkajneeihhobhaaGreatMPgPlM
import Derived.Lib.SmallJoins
namespace Go.Proofs.YtkajneeihhobhaaGreat
open Go.ChangeShapes Go.WideShapes Go.ChangeAt Go.RowKit Go.Joins Go.Deep Go.Maps Wal

structure PLife where
  A : Option Addr
  n : Nat
  c : Nat
  l : Nat → Nat × Int × ByteArray
  fuel : Nat
  kA : Option Addr
  kn : Nat
  kc : Nat
  keep : List Bool
  aA : Option Addr
  an : Nat
  ac : Nat
  again : List Nat
def PLife.cells (x : PLife) : Array Value := #[.slice x.A x.n x.c, .int .u8 (x.fuel : Int), .slice x.kA x.kn x.kc, .slice x.aA x.an x.ac]
structure PLifeGood (W : World) (x : PLife) : Prop where
  ops : POps W x.A x.n x.l
  n : x.n ≤ 9223372036854775807
  f : x.fuel < 256
  keep : Bls W x.kA x.kn x.keep
  kn : x.kn ≤ 9223372036854775807
  lt : 0 < x.kn → ∀ a, x.kA = some a → a.block < W.heap.size
  again : Bts W x.aA x.an x.again
instance : Inhabited PLife := ⟨⟨none, 0, 0, fun _ => (0, 0, ⟨#[]⟩), 0, none, 0, 0, [], none, 0, 0, []⟩⟩
/-- A slice of lives, read. -/
def PLives (w : World) (A : Option Addr) (n : Nat) (l : List PLife) : Prop :=
  l.length = n ∧ (∀ x ∈ l, PLifeGood w x) ∧ (0 < n → ∃ b off, A = some ⟨b, off, none⟩ ∧ b < w.heap.size ∧ ∀ i x, l[i]? = some x → ∀ j, j < 4 → w.cell? ⟨b, off + i * 4 + j, none⟩ = x.cells[j]?)
theorem cellsPLife : Tryz.prog.cellsOf 67 = 4 := by kernel_rfl

section
variable {H : Type} {enc : TypeId × Value → H} {W : World}
set_option maxRecDepth 100000 in
theorem open_pops_trod {fuel : Nat} {v : Value} {x : DataW H × List MemPlace} (hf : DataW.trod enc Tryz.prog W 0 (fun _ => true) true fuel 22 [v] = some x) :
    ∃ A n c l, v = .slice A n c ∧ POps W A n l ∧ n ≤ 9223372036854775807 := by
  rcases open_slice Tryz.underlying22 hf with ⟨hcs, hx⟩ | ⟨a, len, cap, m, n', D, Pl, hcs, _, hl, hm, hmm, hx, hc⟩
  · injection hcs with hcs
    exact ⟨none, 0, 0, fun _ => (0, 0, ⟨#[]⟩), hcs, ⟨fun i hi => by omega, fun h => by omega⟩, by omega⟩
  · injection hcs with hcs
    simp only [if_true] at hmm
    subst hmm
    have key : ∀ i, i < m → ∃ o : Nat × Int × ByteArray, (o.1 < 256 ∧ -9223372036854775808 ≤ o.2.1 ∧ o.2.1 ≤ 9223372036854775807 ∧ o.2.2.size ≤ 9223372036854775807) ∧ W.cell? (a.add (i * 3)) = some (.int .u8 (o.1 : Int)) ∧ W.cell? (a.add (i * 3 + 1)) = some (.int .i64 o.2.1) ∧ W.cell? (a.add (i * 3 + 2)) = some (.string o.2.2) := fun i hi => by
      obtain ⟨cs', hcells, ht⟩ := hc i hi
      rw [cellsPOp] at hcells
      obtain ⟨_, hlen, hat⟩ := World.cells?_some hcells
      obtain ⟨y0, y1, y2, n2, hy, _, h0, h1, h2⟩ := trod_struct3 Tryz.underlying45 ht
      match cs', hlen with
      | [c0, c1, c2], _ =>
        have k0 : Tryz.prog.cellsOf 5 = 1 := cells5
        have k1 : Tryz.prog.cellsOf 3 = 1 := by kernel_rfl
        have k2 : Tryz.prog.cellsOf 9 = 1 := by kernel_rfl
        simp only [k0] at h0
        simp only [k1] at h1
        simp only [k2] at h2
        obtain ⟨z0, e0, _, w0⟩ := DataW.trod_int Tryz.underlying5 (show DataW.trod enc Tryz.prog W 0 (fun _ => true) true n2 5 [c0] = some y0 from h0)
        obtain ⟨z1, e1, _, w1⟩ := DataW.trod_int Tryz.underlying3 (show DataW.trod enc Tryz.prog W 0 (fun _ => true) true n2 3 [c1] = some y1 from h1)
        obtain ⟨z2, e2, _, w2⟩ := DataW.trod_string Tryz.underlying9 (show DataW.trod enc Tryz.prog W 0 (fun _ => true) true n2 9 [c2] = some y2 from h2)
        injection e0 with e0
        injection e1 with e1
        injection e2 with e2
        have u := u8_nat w0
        have b1 := hat 0 (by decide)
        have b2 := hat 1 (by decide)
        have b3 := hat 2 (by decide)
        rw [Go.Deep.add_add] at b1 b2 b3
        refine ⟨(z0.toNat, z1, z2), ⟨u.2, (i64_wf w1).1, (i64_wf w1).2, by unfold maxLen at w2; omega⟩, ?_, ?_, ?_⟩
        · refine b1.trans ?_
          show some c0 = some (Value.int .u8 ((z0.toNat : Nat) : Int))
          rw [u.1, e0]
        · refine b2.trans ?_
          show some c1 = _
          rw [e1]
        · refine b3.trans ?_
          show some c2 = _
          rw [e2]
    obtain ⟨f, hf'⟩ := choose_lt (α := Nat × Int × ByteArray) (p := fun i o => (o.1 < 256 ∧ -9223372036854775808 ≤ o.2.1 ∧ o.2.1 ≤ 9223372036854775807 ∧ o.2.2.size ≤ 9223372036854775807) ∧ W.cell? (a.add (i * 3)) = some (.int .u8 (o.1 : Int)) ∧ W.cell? (a.add (i * 3 + 1)) = some (.int .i64 o.2.1) ∧ W.cell? (a.add (i * 3 + 2)) = some (.string o.2.2)) key
    refine ⟨some a, len, m, f, hcs, ⟨fun i hi => (hf' i (by omega)).1, fun hp => ?_⟩, (by unfold maxLen at hm; omega)⟩
    obtain ⟨b, off, spot⟩ := a
    have h0 := (hf' 0 (by omega)).2.1
    have hspot : spot = none := by
      have := World.cell?_spot h0
      simpa [Addr.add] using this
    subst hspot
    refine ⟨b, off, rfl, by simpa [Addr.add] using block_lt h0, fun i hi => ?_⟩
    obtain ⟨_, h1, h2, h3⟩ := hf' i (by omega)
    have e1 : (⟨b, off, none⟩ : Addr).add (i * 3) = ⟨b, off + i * 3, none⟩ := by rw [add_plain]
    have e2 : (⟨b, off, none⟩ : Addr).add (i * 3 + 1) = ⟨b, off + i * 3 + 1, none⟩ := by rw [add_plain]; congr 1
    have e3 : (⟨b, off, none⟩ : Addr).add (i * 3 + 2) = ⟨b, off + i * 3 + 2, none⟩ := by rw [add_plain]; congr 1
    rw [← e1, ← e2, ← e3]
    exact ⟨h1, h2, h3⟩
set_option maxRecDepth 100000 in
theorem open_bytes_trod {fuel : Nat} {v : Value} {x : DataW H × List MemPlace} (hf : DataW.trod enc Tryz.prog W 0 (fun _ => true) true fuel 56 [v] = some x) :
    ∃ A n c l, v = .slice A n c ∧ Bts W A n l := by
  rcases open_ints Tryz.underlying56 Tryz.underlying5 cells5 hf with ⟨hcs, hx⟩ | ⟨y, l, c', zs, hcs, _, hl, hm, hz, hx, hcell, hwz⟩
  · injection hcs with hcs
    exact ⟨none, 0, 0, [], hcs, ⟨rfl, by simp, fun h => by omega⟩⟩
  · injection hcs with hcs
    simp only [if_true] at hz
    refine ⟨some y, l, c', (zs.take l).map Int.toNat, hcs, ⟨by simp; omega, ?_, fun hp => ?_⟩⟩
    · intro u hu
      obtain ⟨z, hz', rfl⟩ := List.mem_map.1 hu
      exact (u8_nat (hwz z (List.mem_of_mem_take hz'))).2
    · obtain ⟨b, off, spot⟩ := y
      have h0 := hcell 0 (by omega)
      have hspot : spot = none := by simpa [Addr.add] using World.cell?_spot h0
      subst hspot
      refine ⟨b, off, rfl, by simpa [Addr.add] using block_lt h0, fun i hi => ?_⟩
      have h1 := hcell i (by omega)
      have hi' : i < zs.length := by omega
      have h2 : zs.getD i 0 = zs[i] := by simp [List.getD_eq_getElem?_getD, List.getElem?_eq_getElem hi']
      rw [h2] at h1
      have h3 := (u8_nat (hwz _ (List.getElem_mem hi'))).1
      have h4 : (((zs.take l).map Int.toNat).getD i 0) = (zs[i]).toNat := by
        simp [List.getD_eq_getElem?_getD, hi, List.getElem?_eq_getElem hi']
      rw [h4, h3]
      have h5 : (⟨b, off, none⟩ : Addr).add i = ⟨b, off + i, none⟩ := by
        cases i <;> simp [Addr.add]
      rw [← h5]
      exact h1
set_option maxRecDepth 100000 in
theorem open_plives {r : Reach} {b0 : Nat} {v : Value} {d : DataW H} {p : List MemPlace} (hv : Value.okWide Tryz.prog W r b0 62 v) (h : DataW.Trod enc Tryz.prog W 0 (fun _ => true) true 62 v d p) :
    ∃ A n c l, v = .slice A n c ∧ PLives W A n l ∧ n ≤ 9223372036854775807 := by
  obtain ⟨A, n, c, rfl⟩ := okWide_slice Tryz.underlying62 hv
  obtain ⟨fuel, hf⟩ := h
  rcases open_slice Tryz.underlying62 hf with ⟨hcs, hx⟩ | ⟨a, len, cap, m, n', D, Pl, hcs, _, hl, hm, hmm, hx, hc⟩
  · simp [Value.cells] at hcs
    obtain ⟨rfl, rfl, rfl⟩ := hcs
    exact ⟨none, 0, 0, [], rfl, ⟨rfl, by simp, fun h => by omega⟩, by omega⟩
  · simp [Value.cells] at hcs
    obtain ⟨rfl, rfl, rfl⟩ := hcs
    simp only [if_true] at hmm
    subst hmm
    have key : ∀ i, i < n → ∃ o : PLife, PLifeGood W o ∧ ∀ j, j < 4 → W.cell? (a.add (i * 4 + j)) = o.cells[j]? := fun i hi => by
      obtain ⟨cs', hcells, ht⟩ := hc i (by omega)
      rw [cellsPLife] at hcells
      obtain ⟨_, hlen, hat⟩ := World.cells?_some hcells
      obtain ⟨y0, y1, y2, y3, n2, hy, _, g0, g1, g2, g3⟩ := trod_struct4 Tryz.underlying67 ht
      match cs', hlen with
      | [c0, c1, c2, c3], _ =>
        have k0 : Tryz.prog.cellsOf 22 = 1 := by kernel_rfl
        have k1 : Tryz.prog.cellsOf 5 = 1 := cells5
        have k2 : Tryz.prog.cellsOf 65 = 1 := by kernel_rfl
        have k3 : Tryz.prog.cellsOf 56 = 1 := by kernel_rfl
        simp only [k0] at g0
        simp only [k1] at g1
        simp only [k2] at g2
        simp only [k3] at g3
        obtain ⟨A0, n0, c0', l0, e0, hw0, hn0⟩ := open_pops_trod g0
        obtain ⟨z1, e1, _, w1⟩ := DataW.trod_int Tryz.underlying5 g1
        obtain ⟨A2, n2', c2', l2, e2, hb2, hn2, hlt2, _⟩ := open_bls g2
        obtain ⟨A3, n3, c3', l3, e3, hb3⟩ := open_bytes_trod g3
        injection e1 with e1
        have u := u8_nat w1
        refine ⟨⟨A0, n0, c0', l0, z1.toNat, A2, n2', c2', l2, A3, n3, c3', l3⟩, ⟨hw0, hn0, u.2, hb2, hn2, hlt2, hb3⟩, fun j hj => ?_⟩
        have := hat j hj
        rw [Go.Deep.add_add] at this
        rw [this]
        match j, hj with
        | 0, _ => simp [PLife.cells, e0]
        | 1, _ =>
          show some c1 = some (.int .u8 ((z1.toNat : Nat) : Int))
          rw [e1, u.1]
        | 2, _ => simp [PLife.cells, e2]
        | 3, _ => simp [PLife.cells, e3]
    obtain ⟨f, hf'⟩ := choose_lt (α := PLife) (p := fun i o => PLifeGood W o ∧ ∀ j, j < 4 → W.cell? (a.add (i * 4 + j)) = o.cells[j]?) key
    refine ⟨some a, n, m, (List.range n).map f, rfl, ⟨by simp, fun o ho => ?_, fun hp => ?_⟩, by unfold maxLen at hm; omega⟩
    · obtain ⟨i, hi, rfl⟩ := List.mem_map.1 ho
      exact (hf' i (List.mem_range.1 hi)).1
    · obtain ⟨b, off, spot⟩ := a
      have h0 := (hf' 0 hp).2 0 (by omega)
      have hspot : spot = none := by
        have := World.cell?_spot (h0.trans (rfl : (f 0).cells[0]? = some _))
        simpa [Addr.add] using this
      subst hspot
      refine ⟨b, off, rfl, by simpa [Addr.add] using block_lt (h0.trans (rfl : (f 0).cells[0]? = some _)), fun i o hio j hj => ?_⟩
      rw [List.getElem?_map] at hio
      obtain ⟨i', hi', rfl⟩ := Option.map_eq_some_iff.1 hio
      have hil : i < n := by
        rcases Nat.lt_or_ge i n with h' | h'
        · exact h'
        · rw [List.getElem?_eq_none (by simpa using h')] at hi'; cases hi'
      rw [List.getElem?_range hil] at hi'
      injection hi' with hi'
      subst hi'
      have h1 := (hf' i hil).2 j hj
      have e : (⟨b, off, none⟩ : Addr).add (i * 4 + j) = ⟨b, off + i * 4 + j, none⟩ := by rw [add_plain]; congr 1; omega
      rw [← e, h1]
/-- The k-th of the lives, in memory. -/
theorem PLives.at_ {A : Option Addr} {n k : Nat} {l : List PLife} (h : PLives W A n l) (hk : k < n) : ∃ b off x, A = some ⟨b, off, none⟩ ∧ b < W.heap.size ∧ PLifeGood W x ∧
    W.cell? ⟨b, off + k * 4, none⟩ = some (.slice x.A x.n x.c) ∧ W.cell? ⟨b, off + k * 4 + 1, none⟩ = some (.int .u8 (x.fuel : Int)) ∧ W.cell? ⟨b, off + k * 4 + 2, none⟩ = some (.slice x.kA x.kn x.kc) ∧ W.cell? ⟨b, off + k * 4 + 3, none⟩ = some (.slice x.aA x.an x.ac) := by
  obtain ⟨h1, h2, h3⟩ := h
  obtain ⟨b, off, e, hb, hc⟩ := h3 (by omega)
  have hkl : k < l.length := by omega
  have hx := hc k _ (List.getElem?_eq_getElem hkl)
  exact ⟨b, off, l[k], e, hb, h2 _ (List.getElem_mem hkl), hx 0 (by omega), hx 1 (by omega), hx 2 (by omega), hx 3 (by omega)⟩
end
end Go.Proofs.YtkajneeihhobhaaGreat

namespace Go.Proofs.YtkajneeihhobhaaGreat
open Go.RowKit Go.Maps Wal Pgr

/-- Between transactions, the disk calm or not. -/
structure Btw (w0 w : World) (cm : Bool) (p d reg N r : Nat) (C : List Com) (Ls : List (List (Nat × List Nat))) (P : PS) (v : Value) (vs : List Value) (K : List Nat) : Prop where
  ps : PSide w0 w cm p d reg N (.pointer none) C P
  rb : RBase w0 w r N (reg - 1) Ls v vs K
  far : ∀ x ∈ K, x ∉ P.foot
  sims : Sims N C Ls
/-- A life is over: what the disk tells behind any crash, beside the document's commits. -/
structure LEnd (w0 w : World) (d reg N r : Nat) (C : List Com) (Ls : List (List (Nat × List Nat))) (F : List Nat) (m : Dsk.DM) (v : Value) (vs : List Value) (K : List Nat) (least : Nat) : Prop where
  disk : DiskAt w d F m
  len : m.dur.length = reg + N
  waits : m.wait.length ≤ 20000
  tells : ∀ kp, ∃ k, least ≤ k ∧ k ≤ C.length ∧ ∃ st fi, Pgr.Tells N reg (holds (Dsk.crashD m.wait kp m.dur)) (C.take k) st fi
  rb : RBase w0 w r N (reg - 1) Ls v vs K
  far : ∀ x ∈ K, x ∉ F
  sims : Sims N C Ls
  below : Below w0.heap.size w0 w
  new : ∀ x ∈ F, w0.heap.size ≤ x
section
variable {w0 w w1 w2 : World} {cm : Bool} {p d reg N t tm r t2 : Nat} {tx : Value} {g : Com} {C : List Com} {L : List (Nat × List Nat)} {Ls : List (List (Nat × List Nat))} {P P1 : PS} {v v' vL : Value} {vs vs' : List Value} {K K' K2 H : List Nat}
theorem in_foot {x : Nat} (hx : x ∈ P.F) : x ∈ P.foot := pmem_foot.2 (.inr (.inr (List.mem_append.2 (.inr hx))))
/-- The pager lives. -/
theorem PSide.lives (h : PSide w0 w cm p d reg N tx C P) (hb : RBase w0 w r N (reg - 1) Ls v vs K) (hf : ∀ x ∈ K, x ∉ P.foot) (hs : Sims N C Ls) : LEnd w0 w d reg N r C Ls P.F P.m v vs K P.s.synced := by
  have k4 := h.pag.log.disk
  rw [h.ids.2.1] at k4
  have k3 := h.pag.size
  rw [h.ids.2.2.1, h.ids.2.2.2] at k3
  refine ⟨k4, k3, by have := h.inv.waits; omega, fun kp => ?_, hb, fun x hx hm => hf x hx (in_foot hm), hs, h.below, fun x hx => h.new x (in_foot hx)⟩
  have := h.inv.self kp
  rwa [h.ids.2.2.1, h.ids.2.2.2] at this
/-- It has died; the document has the commits C ++ D. -/
theorem died_lives {C' : List Com} (h : PSide w0 w cm p d reg N tx C P) (k : Died w w1 P tx C) (hpre : C'.take C.length = C) (hlen : C.length ≤ C'.length) (hb : RBase w0 w2 r N (reg - 1) Ls v vs K) (hf : ∀ x ∈ K, x ∉ P.foot ∧ (x < w.heap.size ∨ w1.heap.size ≤ x)) (hs : Sims N C' Ls) (ho : Only H w1 w2) (hH : ∀ x ∈ H, x ∉ P.foot ∧ x < w.heap.size ∧ w0.heap.size ≤ x) :
    ∃ P1, PagAt w2 P1 tx ∧ P1.p = p ∧ P1.dead = true ∧ P1.m.dead = true ∧ LEnd w0 w2 d reg N r C' Ls P1.F P1.m v vs K P1.s.synced ∧ P1.s.synced ≤ C.length := by
  obtain ⟨P1, h1, h2, h3, h4, _, h5, h6⟩ := k
  have hfoot : ∀ x ∈ P1.foot, x ∉ H := fun x hx hm => by
    rcases h2.foot x hx with e | e
    · exact (hH x hm).1 e
    · have := (hH x hm).2.1; omega
  have hnew : ∀ x ∈ P1.foot, w0.heap.size ≤ x := fun x hx => by
    rcases h2.foot x hx with e | e
    · exact h.new x e
    · exact Nat.le_trans h.below.size e
  have hb1 : Below w0.heap.size w0 w1 := h.below.trans (h2.only.below h.below.size h.new)
  have k1 := h1.only ho (fun hx => hfoot _ (pmem_foot.2 (.inl rfl)) hx) (fun hx => hfoot _ (pmem_foot.2 (.inr (.inl rfl))) hx) (fun x hx hm => hfoot x (pmem_foot.2 (.inr (.inr hx))) hm)
  have k4 := k1.log.disk
  rw [h2.d, h.ids.2.1] at k4
  have k3 := k1.size
  rw [h2.reg, h2.n, h.ids.2.2.1, h.ids.2.2.2] at k3
  refine ⟨P1, k1, h2.p.trans h.ids.1, h3, h4, ⟨k4, k3, h6, fun kp => ?_, hb, fun x hx hm => ?_, hs, hb1.trans (ho.below hb1.size (fun x hx => (hH x hx).2.2)), fun x hx => hnew x (in_foot hx)⟩, ?_⟩
  · obtain ⟨k, e1, e2, st, fi, ht⟩ := h5 kp
    refine ⟨k, e1, by omega, st, fi, ?_⟩
    rw [h.ids.2.2.1, h.ids.2.2.2] at ht
    have e3 : C'.take k = C.take k := by
      rw [← hpre, List.take_take, Nat.min_eq_left e2]
    rw [e3]
    exact ht
  · rcases hf x hx with ⟨e1, e2⟩
    rcases h2.foot x (in_foot hm) with e | e
    · exact e1 e
    · rcases e2 with e2 | e2
      · omega
      · have := h1.lt
        have := this.2.2 x (List.mem_append.2 (.inr hm))
        omega
  · obtain ⟨k, e1, e2, _⟩ := h5 []
    omega
theorem Duo.over' (h : Duo w0 w cm p d reg N t tm r t2 g C L Ls P v vL vs K K2) (ho : Only (t :: P.foot) w w1) : RBase w0 w1 r N (reg - 1) Ls v vs K ∧ RTran w0 w1 r t2 L vL K2 := by
  have hin : ∀ x ∈ t :: P.foot, x ∈ pfoot t tm P := fun x hx => by
    rcases List.mem_cons.1 hx with rfl | hx
    · exact mem_pfoot.2 (.inl rfl)
    · exact mem_pfoot.2 (.inr (.inr hx))
  exact ⟨h.rb.only ho (fun x hx hm => h.far x (.inl hx) (hin x hm)), h.rt.only ho (fun x hx hm => h.far x (.inr hx) (hin x hm))⟩
theorem Duo.committed' (h : Duo w0 w cm p d reg N t tm r t2 g C L Ls P v vL vs K K2) (f : Bool) (k : PSide w0 w1 cm p d reg N (.pointer none) (comS C g L.length f) P1) (hf : ∀ x ∈ P1.foot, x ∈ P.foot ∨ w.heap.size ≤ x)
    (hb : RBase w0 w2 r N (reg - 1) (comS Ls L L.length f) v' vs' K') (ho2 : Only K w1 w2) (hk : ∀ x ∈ K', x ∈ K ∨ x ∈ K2 ∨ w1.heap.size ≤ x) : Btw w0 w2 cm p d reg N r (comS C g L.length f) (comS Ls L L.length f) P1 v' vs' K' := by
  have hin : ∀ x, x ∈ K ∨ x ∈ K2 → x ∉ P1.foot := fun x hx hm => by
    rcases hf x hm with e | e
    · exact h.far x hx (mem_pfoot.2 (.inr (.inr e)))
    · have : x < w.heap.size := by
        rcases hx with hx | hx
        · exact (h.rb.lt x hx).2
        · exact (h.rt.lt x hx).2
      omega
  have k2 := k.only ho2 (fun x hx => ⟨hin x (.inl hx), (h.rb.lt x hx).1⟩)
  refine ⟨k2, hb, fun x hx hm => ?_, ?_⟩
  · rcases hk x hx with e | e | e
    · exact hin x (.inl e) hm
    · exact hin x (.inr e) hm
    · have := k.lt x hm; omega
  · unfold comS
    split
    · exact h.sims.push h.sim
    · exact h.sims
end
def bfoot (P : PS) (K : List Nat) : List Nat := P.foot ++ K
theorem mem_bfoot {P : PS} {K : List Nat} {x : Nat} : x ∈ bfoot P K ↔ x ∈ P.foot ∨ x ∈ K := by simp [bfoot]
theorem grows_commit {w w1 w2 : World} {t tm : Nat} {P P1 : PS} {K K' K2 : List Nat} (ho : Only (t :: P.foot) w w1) (hf : ∀ x ∈ P1.foot, x ∈ P.foot ∨ w.heap.size ≤ x) (ho2 : Only K w1 w2) (hk : ∀ x ∈ K', x ∈ K ∨ x ∈ K2 ∨ w1.heap.size ≤ x) : Grows w w2 (dfoot t tm P K K2) (bfoot P1 K') := by
  refine ⟨(ho.mono (G := dfoot t tm P K K2) (fun x hx => .inl ?_)).trans ho2 (fun x hx => .inl (mem_dfoot.2 (.inr (.inl hx)))), fun x hx => ?_⟩
  · refine mem_dfoot.2 (.inl ?_)
    rcases List.mem_cons.1 hx with rfl | hx
    · exact mem_pfoot.2 (.inl rfl)
    · exact mem_pfoot.2 (.inr (.inr hx))
  · rcases mem_bfoot.1 hx with e | e
    · rcases hf x e with e | e
      · exact .inl (mem_dfoot.2 (.inl (mem_pfoot.2 (.inr (.inr e)))))
      · exact .inr e
    · rcases hk x e with e | e | e
      · exact .inl (mem_dfoot.2 (.inr (.inl e)))
      · exact .inl (mem_dfoot.2 (.inr (.inr e)))
      · exact .inr (Nat.le_trans ho.size e)
theorem grows_begin {w w' : World} {p t' tm' : Nat} {P : PS} {K : List Nat} (hp : p ∈ P.foot) (ht : w.heap.size ≤ t') (htm : w.heap.size ≤ tm') (ho : Only [p] w w') (o : Obj) : Grows w (w'.alloc o) (bfoot P K) (dfoot t' tm' P K [w'.heap.size]) := by
  refine ⟨((ho.mono (G := bfoot P K) (fun x hx => .inl ?_)).alloc o), fun x hx => ?_⟩
  · have : x = p := by simpa using hx
    rw [this]
    exact mem_bfoot.2 (.inl hp)
  · rcases mem_dfoot.1 hx with e | e | e
    · rcases mem_pfoot.1 e with rfl | rfl | e
      · exact .inr ht
      · exact .inr htm
      · exact .inl (mem_bfoot.2 (.inl e))
    · exact .inl (mem_bfoot.2 (.inr e))
    · have : x = w'.heap.size := by simpa using e
      rw [this]
      exact .inr ho.size
theorem f_commit (w0 w : World) (cm : Bool) (p d reg N t tm r t2 : Nat) (g : Com) (C : List Com) (L : List (Nat × List Nat)) (Ls : List (List (Nat × List Nat))) (P : PS) (v vL : Value) (vs : List Value) (K K2 : List Nat) (h : Duo w0 w cm p d reg N t tm r t2 g C L Ls P v vL vs K K2) (hC : C.length < 1152921504606846976) (hN : N ≤ 1024) :
    Calls Tryz.prog 16 #[.pointer (some ⟨t, 0, none⟩)] w fun e w' => (e = .returned (.tuple #[.int .i64 (comX C.length L (fitL reg L)), .int .i64 (comY L (fitL reg L))]) ∧ SOver w0 w w' cm p d reg N t (comS C g L.length (fitL reg L)) P) ∨
      (e = .returned (.tuple #[.int .i64 0, .int .i64 10]) ∧ (L.length ≠ 0 ∧ fitL reg L = true) ∧ Died w w' P (.pointer (some ⟨t, 0, none⟩)) C) := by
  have hf := h.po.fine
  have hl := h.sim.len
  have hd := dirt_le N g
  refine (s_commit w0 w cm p d reg N t tm g C P h.po hC).mono fun e w' k => ?_
  unfold comX comY comS
  by_cases h0 : L.length = 0
  · obtain ⟨rfl, h3⟩ := k.none_ (by omega)
    simp only [h0, ne_eq, not_true_eq_false, false_and, if_true, if_false]
    exact .inl ⟨trivial, h3⟩
  · have hn : need (rows N g) = (16 + L.length * 520 + 511) / 512 := by rw [rows_need hf, hl, Nat.mul_comm]
    by_cases hfit : (16 + L.length * 520 + 511) / 512 ≤ reg - 1
    · have ef : fitL reg L = true := decide_eq_true hfit
      rcases k.some_ (by omega) ⟨by omega, by rw [hn]; exact hfit⟩ with ⟨rfl, h3⟩ | ⟨rfl, _, h3⟩
      · simp only [ef, h0, ne_eq, not_false_eq_true, and_self, if_true, if_false]
        exact .inl ⟨trivial, h3⟩
      · exact .inr ⟨rfl, ⟨h0, ef⟩, h3⟩
    · have ef : fitL reg L = false := decide_eq_false hfit
      obtain ⟨rfl, h3⟩ := k.big (by omega) (by rw [hn]; omega)
      simp only [ef, h0, if_false, Bool.false_eq_true, and_false]
      exact .inl ⟨trivial, h3⟩
set_option maxRecDepth 100000 in
theorem s_busy (w0 w : World) (cm : Bool) (p d reg N t : Nat) (C : List Com) (P : PS) (h : PSide w0 w cm p d reg N (.pointer (some ⟨t, 0, none⟩)) C P) :
    Calls Tryz.prog 14 #[.pointer (some ⟨p, 0, none⟩)] w fun e w' => e = .returned (.tuple #[.pointer none, .int .i64 6]) ∧ PSide w0 w' cm p d reg N (.pointer (some ⟨t, 0, none⟩)) C P ∧ Only [p] w w' := by
  have M := h.pag.marked false
  rw [PS.alive_same h.inv.alive] at M
  have HM := Lib.hid (h.moved M.1 M.2 (Fuels.refl _) h.inv)
  obtain ⟨rfl, rfl, rfl, rfl⟩ := h.ids
  have OM : Hid (Only [P.p] w (w.setCell ⟨P.p, 5, none⟩ (.bool false))) := (Only.refl _ w).setCell (.inl (by simp)) _
  have TA := palive_any w P _ h.pag
  rw [h.inv.alive, h.inv.inv.alive] at TA
  have TA := Lib.hid TA
  have c4 : (w.setCell ⟨P.p, 5, none⟩ (.bool false)).cell? ⟨P.p, 4, none⟩ = some (.pointer (some ⟨t, 0, none⟩)) := M.1.held.cell 4
  clear M h
  go_enter Tryz.func14, Tryz.ntmps14
  go_wp2_with fail
  refine TA.out.mono ?_
  rintro e w1 ⟨rfl, rfl⟩
  clear TA
  have ed : deadErr (false || false) = 0 := rfl
  rw [show (false || false) = false from rfl] at ed ⊢
  rw [ed]
  generalize w.setCell ⟨P.p, 5, none⟩ (.bool false) = w1 at *
  go_wp2_with fail
  go_ret2
  exact ⟨rfl, HM.out, OM.out⟩
set_option maxRecDepth 100000 in
theorem dead_begin (w : World) (P : PS) (tx : Value) (h : PagAt w P tx) (hd : P.dead = true) :
    Calls Tryz.prog 14 #[.pointer (some ⟨P.p, 0, none⟩)] w fun e w' => e = .returned (.tuple #[.pointer none, .int .i64 10]) ∧ PagAt w' P tx ∧ Only [P.p] w w' := by
  have M := h.marked true
  have eP : ({ P with dead := true } : PS) = P := by rw [← hd]
  rw [eP] at M
  have HM := Lib.hid M.1
  have OM : Hid (Only [P.p] w (w.setCell ⟨P.p, 5, none⟩ (.bool true))) := (Only.refl _ w).setCell (.inl (by simp)) _
  have TA := palive_any w P _ h
  rw [hd, Bool.true_or] at TA
  have TA := Lib.hid TA
  clear M h eP hd
  go_enter Tryz.func14, Tryz.ntmps14
  go_wp2_with fail
  refine TA.out.mono ?_
  rintro e w1 ⟨rfl, rfl⟩
  clear TA
  have ed : deadErr true = 10 := rfl
  rw [ed]
  generalize w.setCell ⟨P.p, 5, none⟩ (.bool true) = w1 at *
  go_wp2_with fail
  go_ret2
  exact ⟨rfl, HM.out, OM.out⟩
/-- The disk's fuel is set. -/
theorem s_fuel (w0 w : World) (p d reg N : Nat) (tx : Value) (C : List Com) (P : PS) (x : Nat) (h : PSide w0 w false p d reg N tx C P) (hx : x < 256) :
    Calls Tryz.prog 25 #[.pointer (some ⟨d, 0, none⟩), .int .i64 (x : Int)] w fun e w' => e = .returned (.tuple #[]) ∧ ∃ P', PSide w0 w' false p d reg N tx C P' ∧ Only P.foot w w' ∧ ∀ y ∈ P'.foot, y ∈ P.foot ∨ w.heap.size ≤ y := by
  have k4 := h.pag.log.disk
  have e0 := h.ids.2.1
  rw [e0] at k4
  refine (fuel_any w d P.F P.m (x : Int) (by omega) k4).mono ?_
  rintro e w' ⟨rfl, ht⟩
  rw [← e0] at ht
  obtain ⟨F', h1, h2⟩ := h.pag.disked ht rfl
  have hi : PInv { P with F := F', m := P.m.setFuel (x : Int) } C := ⟨⟨h.inv.inv.ok, h.inv.inv.up, h.inv.inv.alive, h.inv.inv.size, h.inv.inv.needs, h.inv.inv.syn1, h.inv.inv.syn2, h.inv.inv.live, h.inv.inv.safe⟩, h.inv.frm, h.inv.reg, h.inv.fi, h.inv.fine, h.inv.clear, h.inv.home, h.inv.away, h.inv.wait, h.inv.alive⟩
  refine ⟨rfl, _, ⟨h1, hi, ⟨h2.p.trans h.ids.1, h2.d.trans h.ids.2.1, h2.reg.trans h.ids.2.2.1, h2.n.trans h.ids.2.2.2⟩, h.below.trans (h2.only.below h.below.size h.new), fun y hy => ?_, ?_, fun e => by cases e⟩, h2.only, h2.foot⟩
  · rcases h2.foot y hy with e | e
    · exact h.new y e
    · exact Nat.le_trans h.below.size e
  · show -1 ≤ max (x : Int) (-1)
    omega
end Go.Proofs.YtkajneeihhobhaaGreat
