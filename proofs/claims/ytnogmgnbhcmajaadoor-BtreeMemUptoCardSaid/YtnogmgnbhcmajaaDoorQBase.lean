/-
  The frame of a law's proof, over any program: from 'the call returns true and writes nothing that was there' to what the row asks of the call; and slices of bytes that came in, opened. · Rows of bytes that the call itself makes, over any program: appended to from a slice of bytes, read as a list, stored into. · Words for memory, over any program: only some blocks have turned; a block that is known whole; rows of strings. They serve objects behind pointers whose footprint is a list of blocks. · Plain arithmetic of CRC-32C, no program in it: one shift of the register, eight shifts, the register behind a list of bytes; that they are straight over xor and that no register but zero is shifted to zero; what happens within 32 bits is seen. · The walks of package crc's plain functions: shiftByte is eight shifts; Update and Sum are the register over the bytes, the world as it was; the document's own sum likewise. · Tools for a region that draws its order, walked by hand, over any program: an operation taken first with its slot named; the condition on the world made stronger on the way.
-/
import Derived.WalkKit
import Derived.ProofKit
import Derived.OpenShut
import Derived.ShutString
import Derived.ChangeOld
import Derived.Below
import Derived.SizedLaws
import Derived.Deep.CondSized
import Derived.Laws.AppendOwn
import Derived.Laws.OwnMore
import Derived.OwnWalk
import Derived.Maps.AppendAt
import Derived.Laws.BytesArg
import Derived.Deep.Draws
import Derived.Laws.BitsAllLaws
import Derived.Laws.Rows
import Derived.Laws.NewBlocks
import Derived.Deep.AppendLies
import Derived.Deep.OwnRows
import Derived.Lib.BufferWrite
import Derived.Test.YtnogmgnbhcmajaaDoorRows
import Derived.WalkSpells
import Derived.Lib.Hide
import Derived.Outline
import Derived.Deep.RegionHeld3
import Derived.KernelRfl
namespace Go.Proofs.YtnogmgnbhcmajaaDoor
open Go.ChangeShapes Go.WideShapes Go.ChangeAt Go.RowKit
open Go.ChangeMaps (open_string shut_string)

section
variable {H : Type} {enc : TypeId × Value → H} {P : Program}

theorem trodAll_len {w : World} {base : Nat} {spare : Nat → Bool} {held : Bool} : ∀ {ts : List TypeId} {vs : List Value} {ds : List (DataW H)} {ps : List MemPlace},
    DataW.TrodAll enc P w base spare held ts vs ds ps → ds.length = ts.length ∧ vs.length = ts.length
  | [], [], [], _, _ => ⟨rfl, rfl⟩
  | _ :: _, _ :: _, _ :: _, _, h => by
    obtain ⟨p, q, _, h2, _⟩ := h
    have := trodAll_len h2
    simp [this.1, this.2]

/-- What was read can be read again. -/
theorem trodAll_stays (hl : laidOutB P = true) {W W' : World} (bel : Below W.heap.size W W') : ∀ {ts : List TypeId} {vs : List Value} {ds : List (DataW H)} {ps : List MemPlace},
    (∀ t ∈ ts, P.readableRec t = true ∧ t < P.types.size) → DataW.TrodAll enc P W 0 (fun _ => true) true ts vs ds ps → (∀ x ∈ ps, x.block < W.heap.size) → DataW.TrodAll enc P W' 0 (fun b => decide (b < W.heap.size)) true ts vs ds ps
  | [], [], [], _, _, h, _ => h
  | t :: ts, v :: vs, d :: ds, _, hr, h, hlt => by
    obtain ⟨p, q, h1, h2, rfl⟩ := h
    have ht := hr t (by simp)
    exact ⟨p, q, Below.trod hl ht.1 ht.2 h1 bel (fun x hx => hlt x (by simp [hx])), trodAll_stays hl bel (fun t ht => hr t (by simp [ht])) h2 (fun x hx => hlt x (by simp [hx])), rfl⟩

/-- The call returned true and wrote nothing that was there: all that the row asks. -/
theorem law_post {fn : Func} {s : ChangeSpec} {W W' : World} {args : Array Value} {ds gs : List (DataW H)} {before : List MemPlace} (hl : laidOutB P = true)
    {tb : TypeId} (htb : P.underlying tb = some .bool) (hr : fn.resultTypes = #[tb]) (hp : ∀ t ∈ fn.params.toList, P.readableRec t = true ∧ t < P.types.size) (hv : s.vars = [])
    (hs : ∀ ds : List (DataW H), ds.length = fn.params.toList.length → s.fn H ds = { results := [.lit (.bool true)], args := ds })
    (hW : DataW.Whole enc P fn.params.toList s.vars false W args.toList ds gs before) (bel : Below W.heap.size W W') : s.post enc P fn false true false false W args (.bool true) W' := by
  have hW0 := hW
  have hlt0 := hW.lt
  obtain ⟨p, q, hA, hV, rfl, _, _⟩ := hW
  rw [hv] at hV
  obtain ⟨rfl, rfl⟩ := trodVars_none hV
  have hf := hs (ds ++ []) (by rw [List.append_nil]; exact (trodAll_len hA).1)
  refine ⟨ds, [], _, [], p, [], hW0, ?_, ?_, ?_, bel.frame _, fun h => by cases h⟩
  · rw [hf, hr]
    exact trodAll_mk1 (shut_bool htb _)
  · rw [hf, List.append_nil]
    exact trodAll_stays hl bel hp hA (fun x hx => hlt0 x (by simp [hx]))
  · rw [hf, hv]
    rfl

theorem law_calls {f : FuncId} {fn : Func} {s : ChangeSpec} {W : World} {args : Array Value} {ds gs : List (DataW H)} {before : List MemPlace} (hl : laidOutB P = true)
    {tb : TypeId} (htb : P.underlying tb = some .bool) (hr : fn.resultTypes = #[tb]) (hp : ∀ t ∈ fn.params.toList, P.readableRec t = true ∧ t < P.types.size) (hv : s.vars = [])
    (hs : ∀ ds : List (DataW H), ds.length = fn.params.toList.length → s.fn H ds = { results := [.lit (.bool true)], args := ds })
    (hW : DataW.Whole enc P fn.params.toList s.vars false W args.toList ds gs before)
    (h : Calls P f args W fun e W' => e = .returned (.bool true) ∧ Below W.heap.size W W') :
    Calls P f args W fun e W' => ∃ v, e = .returned v ∧ s.post enc P fn false true false false W args v W' :=
  h.mono fun _ _ ⟨he, bel⟩ => ⟨_, he, law_post hl htb hr hp hv hs hW bel⟩

/-- The arguments, out of the whole. -/
theorem law_args {ts : List TypeId} {vars : List String} {apart : Bool} {W : World} {vs : List Value} {ds gs : List (DataW H)} {before : List MemPlace} (hv : vars = []) (hW : DataW.Whole enc P ts vars apart W vs ds gs before) :
    gs = [] ∧ ∃ p, DataW.TrodAll enc P W 0 (fun _ => true) true ts vs ds p ∧ ∀ x ∈ p, x.block < W.heap.size := by
  have hlt0 := hW.lt
  obtain ⟨p, q, hA, hV, rfl, _, _⟩ := hW
  rw [hv] at hV
  obtain ⟨rfl, rfl⟩ := trodVars_none hV
  exact ⟨rfl, p, hA, fun x hx => hlt0 x (by simp [hx])⟩
end

/-- A slice of bytes that reads as the list l. -/
def Bts (w : World) (A : Option Addr) (n : Nat) (l : List Nat) : Prop :=
  l.length = n ∧ (∀ x ∈ l, x < 256) ∧ (0 < n → ∃ b off, A = some ⟨b, off, none⟩ ∧ b < w.heap.size ∧ ∀ i, i < n → w.cell? ⟨b, off + i, none⟩ = some (.int .u8 ((l.getD i 0 : Nat) : Int)))

theorem u8_nat {z : Int} (h : (Lit.int .u8 z).wf = true) : ((z.toNat : Nat) : Int) = z ∧ z.toNat < 256 := by
  have : 0 ≤ z ∧ z ≤ 255 := by simpa [Lit.wf, IntKind.min, IntKind.max, IntKind.signed, IntKind.bits] using h
  omega

theorem block_lt {w : World} {a : Addr} {v : Value} (h : w.cell? a = some v) : a.block < w.heap.size := by
  rcases Nat.lt_or_ge a.block w.heap.size with h' | h'
  · exact h'
  · simp [World.cell?, Array.getElem?_eq_none h'] at h

theorem open_bts {H : Type} {enc : TypeId × Value → H} {P : Program} {W : World} {r : Reach} {base : Nat} {t e : TypeId} {v : Value} {d : DataW H} {p : List MemPlace}
    (ht : P.underlying t = some (.slice e)) (he : P.underlying e = some (.int .u8)) (hc : P.cellsOf e = 1) (hok : Value.okWide P W r base t v) (hd : DataW.Trod enc P W 0 (fun _ => true) true t v d p) :
    ∃ A n c l, v = .slice A n c ∧ Bts W A n l ∧ n ≤ c ∧ c ≤ maxLen ∧ ((d = .nil ∧ n = 0 ∧ c = 0) ∨ ∃ elems spare, d = .slice elems spare ∧ elems.length = n ∧ elems.length + spare.length = c) := by
  obtain ⟨A, n, c, rfl⟩ := okWide_slice ht hok
  obtain ⟨fuel, hf⟩ := hd
  rcases open_ints ht he hc hf with ⟨hcs, hx⟩ | ⟨x, l, c', zs, hcs, _, hl, hm, hz, hx, hcell, hwz⟩
  · simp [Value.cells] at hcs
    obtain ⟨rfl, rfl, rfl⟩ := hcs
    simp only [Prod.mk.injEq] at hx
    exact ⟨none, 0, 0, [], rfl, ⟨rfl, by simp, fun h => by omega⟩, Nat.le_refl _, Nat.zero_le _, .inl ⟨hx.1, rfl, rfl⟩⟩
  · simp [Value.cells] at hcs
    obtain ⟨rfl, rfl, rfl⟩ := hcs
    simp only [Prod.mk.injEq] at hx
    simp only [if_true] at hz
    refine ⟨some x, n, c, (zs.take n).map Int.toNat, rfl, ⟨by simp; omega, ?_, fun hp => ?_⟩, hl, hm, .inr ⟨_, _, hx.1, by simp [lits]; omega, by simp [lits]; omega⟩⟩
    · intro y hy
      obtain ⟨z, hz', rfl⟩ := List.mem_map.1 hy
      exact (u8_nat (hwz z (List.mem_of_mem_take hz'))).2
    · obtain ⟨b, off, spot⟩ := x
      have h0 := hcell 0 (by omega)
      have hspot : spot = none := by simpa [Addr.add] using World.cell?_spot h0
      subst hspot
      refine ⟨b, off, rfl, by simpa [Addr.add] using block_lt h0, fun i hi => ?_⟩
      have h1 := hcell i (by omega)
      have hi' : i < zs.length := by omega
      have h2 : zs.getD i 0 = zs[i] := by simp [List.getD_eq_getElem?_getD, List.getElem?_eq_getElem hi']
      rw [h2] at h1
      have h3 := (u8_nat (hwz _ (List.getElem_mem hi'))).1
      have h4 : (((zs.take n).map Int.toNat).getD i 0) = (zs[i]).toNat := by
        simp [List.getD_eq_getElem?_getD, hi, List.getElem?_eq_getElem hi']
      rw [h4, h3]
      have h5 : (⟨b, off, none⟩ : Addr).add i = ⟨b, off + i, none⟩ := by
        cases i <;> simp [Addr.add]
      rw [← h5]
      exact h1
end Go.Proofs.YtnogmgnbhcmajaaDoor

namespace Go.Proofs.YtnogmgnbhcmajaaDoor
open Go.RowKit

def u8v (x : Nat) : Value := .int .u8 ((x : Nat) : Int)

/-- t is []byte, e is byte. -/
structure ByteT (P : Program) (t e : TypeId) : Prop where
  ht : P.underlying t = some (.slice e)
  he : P.underlying e = some (.int .u8)
  hc : P.cellsOf e = 1
  hi : (P.info? e).map (fun i => (i.zero, i.size, i.bytes)) = some (some (.int .u8 0), 1, 1)

/-- A row of the call's own that holds the bytes l. -/
def OwnB (w : World) (base : Nat) (e : TypeId) (v : Value) (l : List Nat) : Prop := w.ownsRow base e 1 v l.length (l.map u8v) ∧ ∀ x ∈ l, x < 256

theorem flip_byte {x j : Nat} (hx : x < 256) (hj : j < 8) : bits .xor .u8 (x : Int) ((2 : Int) ^ j % 256) = ((x ^^^ 2 ^ j : Nat) : Int) ∧ x ^^^ 2 ^ j < 256 ∧ 0 < 2 ^ j ∧ 2 ^ j < 256 := by
  have hy : 2 ^ j < 2 ^ 8 := Nat.pow_lt_pow_right (by omega) hj
  have hp : 0 < 2 ^ j := Nat.two_pow_pos j
  have e : (2 : Int) ^ j % 256 = ((2 ^ j : Nat) : Int) := by
    have h : ((2 ^ j : Nat) : Int) = (2 : Int) ^ j := Int.natCast_pow 2 j
    rw [← h]
    omega
  have hlt := Nat.xor_lt_two_pow (n := 8) (show x < 2 ^ 8 by omega) hy
  exact ⟨by rw [e, u8_xor_nat _ _ hx (by omega)], by omega, hp, by omega⟩

section
variable {P : Program} {t e : TypeId} {w : World}

theorem Bts.at_ {A : Option Addr} {n : Nat} {l : List Nat} (h : Bts w A n l) {ad : Addr} (hA : A = some ad) : ∀ j u, (l.map u8v)[j]? = some u → w.cell? (ad.add j) = some u := by
  intro j u hu
  rw [List.getElem?_map] at hu
  obtain ⟨x, hx, rfl⟩ := Option.map_eq_some_iff.1 hu
  have hj : j < l.length := by
    rcases Nat.lt_or_ge j l.length with h' | h'
    · exact h'
    · rw [List.getElem?_eq_none h'] at hx; cases hx
  obtain ⟨b, off, hb, _, hc⟩ := h.2.2 (by have := h.1; omega)
  rw [hb] at hA
  injection hA with hA
  subst hA
  rw [WideShapes.add_plain, hc j (by have := h.1; omega), List.getD_eq_getElem?_getD, hx]
  rfl

theorem Bts.cell0 {g n : Nat} {l : List Nat} (h : Bts w (some ⟨g, 0, none⟩) n l) {i : Nat} (hi : i < n) : w.cell? ⟨g, i, none⟩ = some (.int .u8 ((l.getD i 0 : Nat) : Int)) := by
  obtain ⟨b, off, e, _, hc⟩ := h.2.2 (by omega)
  injection e with e
  injection e with e1 e2
  subst e1 e2
  have := hc i hi
  rwa [Nat.zero_add] at this
theorem run_append_bts (B : ByteT P t e) (base : Nat) (ty : TypeId) (v : Value) (k : List Nat) (hown : OwnB w base e v k)
    (A : Option Addr) (m c : Nat) (l : List Nat) (hb : Bts w A m l) (hr : k.length + m ≤ 140737488355328) (hbase : base ≤ w.heap.size) :
    ∃ v' w', (Builtin.append_ #[t, t] ty #[v, .slice A m c]).run P w = .ok v' w' ∧ OwnB w' base e v' (k ++ l) ∧ w.grownBy w' v.ownBlock ∧
      (v'.ownBlock = v.ownBlock ∨ v'.ownBlock = some w.heap.size) := by
  obtain ⟨i, hi, hz, hsize, hby⟩ := info_parts B.hi
  have h8 : ∀ x ∈ k ++ l, x < 256 := fun x hx => (List.mem_append.1 hx).elim (hown.2 x) (hb.2.1 x)
  rcases A with _ | ad
  · have hm : m = 0 := by
      rcases Nat.eq_zero_or_pos m with h0 | h0
      · exact h0
      · obtain ⟨b, off, h, _⟩ := hb.2.2 h0
        cases h
    subst hm
    have hn : l = [] := List.eq_nil_of_length_eq_zero hb.1
    subst hn
    refine ⟨v, w, ?_, ⟨by simpa using hown.1, by simpa using hown.2⟩, World.grownBy.refl w _, .inl rfl⟩
    rcases hown.1.2 with ⟨rfl, _⟩ | ⟨g, cap, cur, rfl, _, _, hnc, _⟩
    · simp [Builtin.append_, run_underlying B.ht, sizeOf, typeInfo, hi, Builtin.lenOf, Builtin.firstCells]
    · simp [Builtin.append_, run_underlying B.ht, sizeOf, typeInfo, hi, Builtin.lenOf, Builtin.firstCells, hnc, storeCells]
  · obtain ⟨v', w', hrun, h2, h3, _, h5⟩ := run_append_own_at (P := P) w base t ty e i (.int .u8 0) 1 1 B.ht hi hz hsize hby rfl (by omega) v k.length (k.map u8v) hown.1 ad m c (l.map u8v) (by simp [hb.1]) (hb.at_ rfl)
      (fun u hu => by obtain ⟨x, _, rfl⟩ := List.mem_map.1 hu; rfl) (by simp only [maxLen]; omega) (by omega) hbase
    exact ⟨v', w', hrun, ⟨by rw [List.length_append, List.map_append, hb.1]; exact h2, h8⟩, h3, h5⟩

theorem wp_append_bts (B : ByteT P t e) {o : Oper} {a : Act} {K : Act → World → Prop} {Q : Exit → Act → World → Prop} (s x : Operand)
    (ho : o.op = .call { callee := .builtin .append, args := #[s, x], argTypes := #[t, t] })
    (base : Nat) (v : Value) (k : List Nat) (hs : a.eval s = v) (hown : OwnB w base e v k)
    (A : Option Addr) (m c : Nat) (l : List Nat) (hx : a.eval x = .slice A m c) (hb : Bts w A m l) (hr : k.length + m ≤ 140737488355328) (hbase : base ≤ w.heap.size)
    (h : ∀ v' w', OwnB w' base e v' (k ++ l) → w.grownBy w' v.ownBlock → (v'.ownBlock = v.ownBlock ∨ v'.ownBlock = some w.heap.size) → K (a.put o.dst v') w') : o.wp P a w K Q := by
  obtain ⟨v', w', hrun, h2, h3, h4⟩ := run_append_bts B base o.type v k hown A m c l hb hr hbase
  unfold Oper.wp execOp
  simp only [ho, resolve, invoke, builtin, Sem.run_bind, Sem.run_pure, Result.andThen_ok, List.map_toArray, List.map_cons, List.map_nil, hs, hx, hrun]
  exact h v' w' h2 h3 h4

/-- append(v, x...) at the head of a plain list of operations. -/
theorem wpList_append_bts (B : ByteT P t e) {ops : Array Oper} {rest : List Oper} {o : Oper} {a : Act} {Q : Exit → Act → World → Prop} (hgd : o.guard = none) (s x : Operand)
    (ho : o.op = .call { callee := .builtin .append, args := #[s, x], argTypes := #[t, t] })
    (base : Nat) (v : Value) (k : List Nat) (hs : a.eval s = v) (hown : OwnB w base e v k)
    (A : Option Addr) (m c : Nat) (l : List Nat) (hx : a.eval x = .slice A m c) (hb : Bts w A m l) (hr : k.length + m ≤ 140737488355328) (hbase : base ≤ w.heap.size)
    (h : ∀ v' w', OwnB w' base e v' (k ++ l) → w.grownBy w' v.ownBlock → (v'.ownBlock = v.ownBlock ∨ v'.ownBlock = some w.heap.size) → wpList P ops Q rest (a.put o.dst v') w') : wpList P ops Q (o :: rest) a w :=
  wpList_plain hgd fun _ hK => wp_append_bts B s x ho base v k hs hown A m c l hx hb hr hbase fun v' w' h2 h3 h4 => hK _ _ (h v' w' h2 h3 h4)

/-- An empty row that has just been laid. -/
theorem ownB_new (base : Nat) (hb : base ≤ w.heap.size) (b : Nat) (hbe : b = w.heap.size) : OwnB (w.alloc (.cells #[] e)) base e (.slice (some ⟨b, 0, none⟩) 0 0) [] := by
  subst hbe
  refine ⟨⟨rfl, .inr ⟨_, 0, #[], rfl, hb, heap_alloc_new w _, Nat.le_refl _, by simp [maxLen], rfl, rfl⟩⟩, by simp⟩

/-- What an owned row is, read. -/
theorem OwnB.form {base : Nat} {v : Value} {l : List Nat} (h : OwnB w base e v l) (hp : 0 < l.length) :
    ∃ g cap, v = .slice (some ⟨g, 0, none⟩) l.length cap ∧ base ≤ g ∧ g < w.heap.size ∧ Bts w (some ⟨g, 0, none⟩) l.length l ∧ ∀ j, w.frozen? ⟨g, j, none⟩ = false := by
  rcases h.1.2 with ⟨_, h0⟩ | ⟨g, cap, cur, rfl, hg, hh, hn, hcap, hsz, htake⟩
  · omega
  · have hlt := (h.1.lt g rfl).2
    refine ⟨g, cap, rfl, hg, hlt, ⟨rfl, h.2, fun _ => ⟨g, 0, rfl, hlt, fun i hi => ?_⟩⟩, fun j => h.1.frozenAt j⟩
    rw [Nat.zero_add, h.1.cellAt i (by omega), List.getElem?_map, List.getD_eq_getElem?_getD, List.getElem?_eq_getElem hi]
    rfl
theorem OwnB.form' {base n : Nat} {v : Value} {l : List Nat} (h : OwnB w base e v l) (hn : l.length = n) (hp : 0 < n) :
    ∃ g cap, v = .slice (some ⟨g, 0, none⟩) n cap ∧ base ≤ g ∧ g < w.heap.size ∧ Bts w (some ⟨g, 0, none⟩) n l ∧ (∀ j, w.frozen? ⟨g, j, none⟩ = false) ∧ OwnB w base e (.slice (some ⟨g, 0, none⟩) n cap) l := by
  subst hn
  obtain ⟨g, cap, rfl, h1, h2, h3, h4⟩ := h.form hp
  exact ⟨g, cap, rfl, h1, h2, h3, h4, h⟩
theorem OwnB.any {base : Nat} {v : Value} {l : List Nat} (h : OwnB w base e v l) : ∃ A cap, v = .slice A l.length cap ∧ Bts w A l.length l := by
  rcases Nat.eq_zero_or_pos l.length with h0 | h0
  · have hl : l = [] := List.eq_nil_of_length_eq_zero h0
    subst hl
    have hb : ∀ A, Bts w A 0 [] := fun A => ⟨rfl, by simp, fun h => by omega⟩
    rcases h.1.2 with ⟨rfl, _⟩ | ⟨g, cap, cur, rfl, _⟩
    · exact ⟨none, 0, rfl, hb _⟩
    · exact ⟨_, cap, rfl, hb _⟩
  · obtain ⟨g, cap, rfl, _, _, hb, _⟩ := h.form h0
    exact ⟨_, cap, rfl, hb⟩
theorem OwnB.grown {base : Nat} {v : Value} {l : List Nat} {a w' : World} (ho : OwnB w base e v l) (hb : Below base a w) (hg : w.grownBy w' v.ownBlock) (hs : base ≤ w.heap.size) : Below base a w' :=
  hb.grown hg hs fun k hk => (ho.1.lt k hk).1
theorem OwnB.stored {base g cap : Nat} {l : List Nat} (h : OwnB w base e (.slice (some ⟨g, 0, none⟩) l.length cap) l) (j : Nat) (x : Nat) (hx : x < 256) :
    OwnB (w.setCell ⟨g, j, none⟩ (u8v x)) base e (.slice (some ⟨g, 0, none⟩) l.length cap) (l.set j x) :=
  ⟨by rw [List.length_set, List.map_set]; exact (h.1.stored j (u8v x)).1, fun y hy => by
    rcases List.mem_or_eq_of_mem_set hy with hy | rfl
    · exact h.2 y hy
    · exact hx⟩
theorem OwnB.drew {base : Nat} {v : Value} {l : List Nat} (h : OwnB w base e v l) : OwnB w.drew base e v l := h
theorem OwnB.stored' {base g n cap : Nat} {l : List Nat} (h : OwnB w base e (.slice (some ⟨g, 0, none⟩) n cap) l) (hn : l.length = n) (j : Nat) (x : Nat) (hx : x < 256) :
    OwnB (w.setCell ⟨g, j, none⟩ (u8v x)) base e (.slice (some ⟨g, 0, none⟩) n cap) (l.set j x) := by
  subst hn
  exact h.stored j x hx
theorem OwnB.alloc {base : Nat} {v : Value} {l : List Nat} (h : OwnB w base e v l) (o : Obj) : OwnB (w.alloc o) base e v l := ⟨h.1.alloc o, h.2⟩
theorem OwnB.below {base B : Nat} {v : Value} {l : List Nat} {w' : World} (h : OwnB w base e v l) (hb : Below B w w') (hv : ∀ g, v.ownBlock = some g → g < B) : OwnB w' base e v l := by
  refine ⟨⟨h.1.1, ?_⟩, h.2⟩
  rcases h.1.2 with h0 | ⟨g, cap, cur, rfl, hg, hh, r⟩
  · exact .inl h0
  · exact .inr ⟨g, cap, cur, rfl, hg, (hb.block g (hv g rfl)).trans hh, r⟩
/-- The string of some bytes. -/
def strB (l : List Nat) : ByteArray := strOfNums (l.map fun x => ((x : Nat) : Int))
theorem strB_inj {l m : List Nat} (hl : ∀ x ∈ l, x < 256) (hm : ∀ x ∈ m, x < 256) (h : strB l = strB m) : l = m := by
  have h1 := congrArg (fun s : ByteArray => s.data.toList.map fun b => b.toNat) h
  simp only [strB, strOfNums_data, List.map_map] at h1
  have key : ∀ k : List Nat, (∀ x ∈ k, x < 256) → k.map ((fun b : UInt8 => b.toNat) ∘ (fun n : Int => UInt8.ofNat n.toNat) ∘ fun x : Nat => ((x : Nat) : Int)) = k := by
    intro k hk
    have : k.map ((fun b : UInt8 => b.toNat) ∘ (fun n : Int => UInt8.ofNat n.toNat) ∘ fun x : Nat => ((x : Nat) : Int)) = k.map id := by
      apply List.map_congr_left
      intro x hx
      simp
      exact hk x hx
    rw [this, List.map_id]
  rw [key l hl, key m hm] at h1
  exact h1
theorem Bts.toStr (B : ByteT P t e) {ts : TypeId} (hts : P.underlying ts = some .string) {A : Option Addr} {n : Nat} {l : List Nat} (h : Bts w A n l) (c : Nat) :
    (convert t ts (.slice A n c)).run P w = .ok (.string (strB l)) w := by
  rcases Nat.eq_zero_or_pos n with h0 | h0
  · subst h0
    have hl : l = [] := List.eq_nil_of_length_eq_zero h.1
    subst hl
    rw [run_convert_bytes_string w t ts e _ _ c B.ht B.he hts]
    cases A with
    | none => simp [Conv.bytesToString]; rfl
    | some ad =>
      rw [run_bytesToString w ad 0 c [] (by simpa using run_loadCells_list (P := P) w ad [] (fun j v hj => by simp at hj))]
      rfl
  · obtain ⟨b, off, rfl, _, hc⟩ := h.2.2 h0
    refine run_convert_bytes_arg w t e B.ht B.he b off n c _ (by simp [h.1]) (fun i hi => ?_) ts hts
    rw [hc i hi]
    have hi' : i < l.length := by rw [h.1]; exact hi
    simp [List.getD_eq_getElem?_getD, List.getElem?_eq_getElem hi']
theorem Bts.drewN {A : Option Addr} {n : Nat} {l : List Nat} (h : Bts w A n l) (k : Nat) : Bts (w.drewN k) A n l := h
theorem Bts.drew {A : Option Addr} {n : Nat} {l : List Nat} (h : Bts w A n l) : Bts w.drew A n l := h
theorem Bts.head {A : Option Addr} {n k : Nat} {l : List Nat} (h : Bts w A n l) (hk : k ≤ n) : Bts w A k (l.take k) :=
  ⟨by rw [List.length_take, h.1]; omega, fun x hx => h.2.1 x (List.mem_of_mem_take hx), fun hp => by
    obtain ⟨b, off, e, hl, hc⟩ := h.2.2 (by omega)
    refine ⟨b, off, e, hl, fun i hi => ?_⟩
    rw [hc i (by omega), List.getD_eq_getElem?_getD, List.getD_eq_getElem?_getD, List.getElem?_take, if_pos hi]⟩
theorem Bts.below {A : Option Addr} {n : Nat} {l : List Nat} {w' : World} {B : Nat} (h : Bts w A n l) (hb : Below B w w') (hB : ∀ a, A = some a → a.block < B) : Bts w' A n l :=
  ⟨h.1, h.2.1, fun hn => by
    obtain ⟨b, off, e, hl, hc⟩ := h.2.2 hn
    exact ⟨b, off, e, Nat.lt_of_lt_of_le hl hb.size, fun i hi => (hb.cell (p := ⟨b, off + i, none⟩) (hB ⟨b, off, none⟩ e)).trans (hc i hi)⟩⟩
/-- What lay there when the call began reads as it did. -/
theorem Bts.kept {A : Option Addr} {n : Nat} {l : List Nat} {w' : World} (h : Bts w A n l) (hb : Below w.heap.size w w') : Bts w' A n l :=
  ⟨h.1, h.2.1, fun hn => by
    obtain ⟨b, off, e, hl, hc⟩ := h.2.2 hn
    exact ⟨b, off, e, Nat.lt_of_lt_of_le hl hb.size, fun i hi => (hb.cell (p := ⟨b, off + i, none⟩) hl).trans (hc i hi)⟩⟩
end
end Go.Proofs.YtnogmgnbhcmajaaDoor

namespace Go.Proofs.YtnogmgnbhcmajaaDoor
open Go.RowKit

/-- Blocks of F, and new ones, may have turned: no other. -/
structure Only (F : List Nat) (w w' : World) : Prop where
  os : w'.os = w.os
  tape : w'.tape = w.tape
  output : w'.output = w.output
  size : w.heap.size ≤ w'.heap.size
  block : ∀ k, k < w.heap.size → k ∉ F → w'.heap[k]? = w.heap[k]?

section
variable {F G : List Nat} {w a b c : World}
theorem Only.refl (F : List Nat) (w : World) : Only F w w := ⟨rfl, rfl, rfl, Nat.le_refl _, fun _ _ _ => rfl⟩
theorem Only.trans (h : Only F a b) (k : Only G b c) (hG : ∀ x ∈ G, x ∈ F ∨ a.heap.size ≤ x) : Only F a c :=
  ⟨k.os.trans h.os, k.tape.trans h.tape, k.output.trans h.output, Nat.le_trans h.size k.size, fun i hi hn => (k.block i (Nat.lt_of_lt_of_le hi h.size) (fun hg => by
    rcases hG i hg with h' | h'
    · exact hn h'
    · omega)).trans (h.block i hi hn)⟩
theorem Only.mono (h : Only F a b) (hG : ∀ x ∈ F, x ∈ G ∨ a.heap.size ≤ x) : Only G a b := (Only.refl G a).trans h hG
theorem Only.drew (h : Only F a b) : Only F a b.drew := ⟨h.os, h.tape, h.output, h.size, h.block⟩
theorem Only.drewN (h : Only F a b) (n : Nat) : Only F a (b.drewN n) := ⟨h.os, h.tape, h.output, h.size, h.block⟩
theorem Only.alloc (h : Only F a b) (o : Obj) : Only F a (b.alloc o) :=
  h.trans (G := []) ⟨rfl, rfl, rfl, by simp, fun k hk _ => Below.heap_alloc _ _ _ hk⟩ (fun _ hx => by cases hx)
theorem Only.setCell (h : Only F a b) {p : Addr} (hp : p.block ∈ F ∨ a.heap.size ≤ p.block) (u : Value) : Only F a (b.setCell p u) :=
  h.trans (G := [p.block]) ⟨rfl, rfl, rfl, by simp [World.setCell], fun k _ hk => Below.heap_setCell _ _ _ _ (fun e => hk (by simp [e]))⟩ (fun x hx => by
    have : x = p.block := by simpa using hx
    rw [this]; exact hp)
theorem Only.grown {row : Option Nat} (h : Only F a b) (hg : b.grownBy c row) (hr : ∀ k, row = some k → k ∈ F ∨ a.heap.size ≤ k) : Only F a c :=
  h.trans (G := row.toList) ⟨hg.os, hg.tape, hg.output, hg.size, fun k hk hn => hg.block k hk (fun e => hn (by simp [← e]))⟩ (fun x hx => hr x (by simpa using hx))
theorem Only.of_below (h : Below w.heap.size w a) : Only F w a := ⟨h.os, h.tape, h.output, h.size, fun k hk _ => h.block k hk⟩
theorem Only.under (h : Only F a b) (hb : Below b.heap.size b c) : Only F a c := h.trans (Only.of_below (F := []) hb) (fun _ hx => by cases hx)
theorem Only.below (h : Only F a b) {B : Nat} (hB : B ≤ a.heap.size) (hF : ∀ x ∈ F, B ≤ x) : Below B a b :=
  ⟨h.os, h.tape, h.output, h.size, fun k hk => h.block k (by omega) (fun hm => by have := hF k hm; omega)⟩
theorem Only.below_nil (h : Only [] a b) : Below a.heap.size a b := h.below (Nat.le_refl _) (fun _ hx => by cases hx)
theorem Only.from_ (h : Only F a b) {w : World} (hw : Below w.heap.size w a) (hF : ∀ x ∈ F, w.heap.size ≤ x) : Below w.heap.size w b :=
  hw.trans (h.below hw.size hF)
theorem Only.cell (h : Only F a b) {p : Addr} (hp : p.block < a.heap.size) (hn : p.block ∉ F) : b.cell? p = a.cell? p := World.cell?_of_block (h.block _ hp hn)
theorem Only.frozen (h : Only F a b) {p : Addr} (hp : p.block < a.heap.size) (hn : p.block ∉ F) : b.frozen? p = a.frozen? p := World.frozen?_of_block (h.block _ hp hn)
theorem Only.heap (h : Only F a b) {g : Nat} {o : Obj} (hg : a.heap[g]? = some o) (hn : g ∉ F) : b.heap[g]? = some o :=
  (h.block g (Array.getElem?_eq_some_iff.1 hg).1 hn).trans hg
theorem Only.row {base : Nat} {e : TypeId} {size : Nat} {v : Value} {n : Nat} {xs : List Value} (h : Only F a b) (ho : a.ownsRow base e size v n xs) (hn : ∀ g, v.ownBlock = some g → g ∉ F) : b.ownsRow base e size v n xs := by
  refine ⟨ho.1, ?_⟩
  rcases ho.2 with h0 | ⟨g, cap, cur, rfl, hb, hg, r⟩
  · exact .inl h0
  · exact .inr ⟨g, cap, cur, rfl, hb, h.heap hg (hn g rfl), r⟩
theorem Only.bts {A : Option Addr} {n : Nat} {l : List Nat} (h : Only F a b) (hb : Bts a A n l) (hA : 0 < n → ∀ x, A = some x → x.block ∉ F) : Bts b A n l :=
  ⟨hb.1, hb.2.1, fun hn => by
    obtain ⟨g, off, e, hl, hc⟩ := hb.2.2 hn
    exact ⟨g, off, e, Nat.lt_of_lt_of_le hl h.size, fun i hi => (h.cell (p := ⟨g, off + i, none⟩) hl (hA hn ⟨g, off, none⟩ e)).trans (hc i hi)⟩⟩
end

/-- Block g is just these cells, of element type t; none is frozen. -/
def Held (w : World) (g : Nat) (t : TypeId) (cs : Array Value) : Prop := w.heap[g]? = some (.cells cs t (0, 0))

section
variable {w w' : World} {g : Nat} {t : TypeId} {cs : Array Value}
theorem Held.lt (h : Held w g t cs) : g < w.heap.size := (Array.getElem?_eq_some_iff.1 h).1
theorem Held.cell (h : Held w g t cs) (i : Nat) : w.cell? ⟨g, i, none⟩ = cs[i]? := cell_of_row w g i cs t (0, 0) h
theorem Held.frozen (h : Held w g t cs) (i : Nat) : w.frozen? ⟨g, i, none⟩ = false := frozen_of_row w g i cs t h
theorem Held.new (w : World) (t : TypeId) (cs : Array Value) {b : Nat} (hb : b = w.heap.size) : Held (w.alloc (.cells cs t)) b t cs := by subst hb; exact heap_alloc_new w _
theorem Held.drew (h : Held w g t cs) : Held w.drew g t cs := h
theorem Held.drewN (h : Held w g t cs) (n : Nat) : Held (w.drewN n) g t cs := h
theorem Held.alloc (h : Held w g t cs) (o : Obj) : Held (w.alloc o) g t cs := (Below.heap_alloc w o g h.lt).trans h
theorem Held.set_ (h : Held w g t cs) (i : Nat) (u : Value) : Held (w.setCell ⟨g, i, none⟩ u) g t (cs.setIfInBounds i u) := heap_setCell_same w g i cs t u h
theorem Held.far (h : Held w g t cs) {p : Addr} (hp : g ≠ p.block) (u : Value) : Held (w.setCell p u) g t cs := (Below.heap_setCell w p u g hp).trans h
theorem Held.only {F : List Nat} (h : Held w g t cs) (k : Only F w w') (hg : g ∉ F) : Held w' g t cs := k.heap h hg
theorem Held.below {B : Nat} (h : Held w g t cs) (hb : Below B w w') (hg : g < B) : Held w' g t cs := (hb.block g hg).trans h
theorem Held.ne_ {g' : Nat} {t' : TypeId} {cs' : Array Value} (h : Held w g t cs) (h' : Held w g' t' cs') (hne : t ≠ t') : g ≠ g' := by
  rintro rfl
  unfold Held at h h'
  rw [h] at h'
  injection h' with h'
  injection h' with _ ht
  exact hne ht
theorem Held.ne_row {base : Nat} {e : TypeId} {size n : Nat} {v : Value} {xs : List Value} (hg : Held w g t cs) (h : w.ownsRow base e size v n xs) (hne : e ≠ t) : ∀ b, v.ownBlock = some b → b ≠ g := by
  intro b hb
  rcases h.2 with ⟨rfl, _⟩ | ⟨g', cap, cur, rfl, _, hh, _⟩
  · cases hb
  · have : g' = b := by simpa [Value.ownBlock] using hb
    subst this
    exact Held.ne_ (t := e) hh hg hne
end

/-- A row, behind a store into another block. -/
theorem ownsRow_far {w : World} {base : Nat} {e : TypeId} {size : Nat} {v : Value} {n : Nat} {xs : List Value} (h : w.ownsRow base e size v n xs) {p : Addr} (hp : ∀ g, v.ownBlock = some g → g ≠ p.block) (u : Value) :
    (w.setCell p u).ownsRow base e size v n xs :=
  (Only.refl [p.block] w).setCell (by simp) u |>.row h fun g hg hm => hp g hg (by simpa using hm)
theorem ownsRow_drew {w : World} {base : Nat} {e : TypeId} {size : Nat} {v : Value} {n : Nat} {xs : List Value} (h : w.ownsRow base e size v n xs) : w.drew.ownsRow base e size v n xs := h
/-- Two rows of different element types lie in different blocks. -/
theorem rows_ne {w : World} {base base' : Nat} {e e' : TypeId} {size size' : Nat} {v v' : Value} {n n' : Nat} {xs xs' : List Value} (h : w.ownsRow base e size v n xs) (h' : w.ownsRow base' e' size' v' n' xs') (hne : e ≠ e') :
    ∀ g, v.ownBlock = some g → v'.ownBlock ≠ some g := by
  intro g hg hg'
  rcases h.2 with ⟨rfl, _⟩ | ⟨g1, cap, cur, rfl, _, hh, _⟩
  · cases hg
  · have e1 : g1 = g := by simpa [Value.ownBlock] using hg
    subst e1
    rcases h'.2 with ⟨rfl, _⟩ | ⟨g2, cap2, cur2, rfl, _, hh2, _⟩
    · cases hg'
    · have e2 : g2 = g1 := by simpa [Value.ownBlock] using hg'
      subst e2
      rw [hh] at hh2
      injection hh2 with hh2
      injection hh2 with _ ht
      exact hne ht

/-- The value of a text of bytes. -/
def strV (l : List Nat) : Value := .string (strB l)
/-- The bytes of a string. -/
def nums (s : ByteArray) : List Nat := s.data.toList.map fun b => b.toNat
theorem nums_lt (s : ByteArray) : ∀ x ∈ nums s, x < 256 := fun x hx => by
  obtain ⟨b, _, rfl⟩ := List.mem_map.1 hx
  exact b.toNat_lt
theorem nums_length (s : ByteArray) : (nums s).length = s.size := by unfold nums; rw [List.length_map, Array.length_toList]; rfl
theorem strB_nums (s : ByteArray) : strB (nums s) = s := by
  apply ByteArray.ext
  apply Array.toList_inj.1
  simp only [strB, strOfNums_data, nums, List.map_map]
  conv => rhs; rw [← List.map_id s.data.toList]
  apply List.map_congr_left
  intro b _
  simp
theorem nums_strB {l : List Nat} (h : ∀ x ∈ l, x < 256) : nums (strB l) = l := strB_inj (nums_lt _) h (strB_nums _)
theorem strB_size (l : List Nat) : (strB l).size = l.length := by simp [strB, strOfNums_size]
theorem strB_nil : strB [] = ⟨#[]⟩ := rfl

theorem byteCells_strB {l : List Nat} (h : ∀ x ∈ l, x < 256) : Lib.byteCells (strB l).data.toList = l.map u8v := by
  have e : (strB l).data.toList.map (fun b => b.toNat) = l := nums_strB h
  conv => rhs; rw [← e]
  simp only [Lib.byteCells, List.map_map]
  rfl

/-- copy(row, text): the text's bytes go over the head of a row of the call's own. -/
theorem run_copy_str {P : Program} {t e : TypeId} (B : ByteT P t e) {w : World} {base g n c : Nat} {old l : List Nat} (ho : OwnB w base e (.slice (some ⟨g, 0, none⟩) n c) old) (hn : old.length = n) (hl : l.length ≤ n) (h8 : ∀ x ∈ l, x < 256)
    (ts ty : TypeId) : ∃ w', (Builtin.copy_ #[t, ts] ty #[.slice (some ⟨g, 0, none⟩) n c, .string (strB l)]).run P w = .ok (goInt l.length) w' ∧ OwnB w' base e (.slice (some ⟨g, 0, none⟩) n c) (l ++ old.drop l.length) ∧ w.grownBy w' (some g) := by
  subst hn
  rcases ho.1.2 with ⟨h, _⟩ | ⟨g', cap, cur, h, hb, hg, hnc, hcm, hcs, htake⟩
  · simp at h
  · simp only [Value.slice.injEq, Option.some.injEq, Addr.mk.injEq, and_true, true_and] at h
    obtain ⟨rfl, rfl⟩ := h
    obtain ⟨i, hi, _, hi1, _⟩ := info_parts B.hi
    have hcs' : cur.size = c := by omega
    have hsz : (strB l).size = l.length := strB_size l
    have hr := Lib.run_copy_row_string (P := P) w t ts ty e g 0 old.length c (strB l) cur e B.ht (by rw [hi]; simp [hi1]) hg (by omega) (by omega)
    rw [byteCells_strB h8, hsz] at hr
    have el : (l ++ old.drop l.length).length = old.length := by simp; omega
    refine ⟨_, hr, ⟨?_, ?_⟩, ⟨rfl, rfl, rfl, by simp, fun k _ hk => setRow_other w g k _ (fun e => hk (by simp [e]))⟩⟩
    · rw [el]
      refine ⟨by simp; omega, .inr ⟨g, c, _, rfl, hb, setRow_heap w g cur _ e _ hg, hnc, hcm, ?_, ?_⟩⟩
      · simp only [List.size_toArray, List.length_append, List.length_take, List.length_drop, List.length_map, Array.length_toList]
        omega
      · simp only [Nat.mul_one, List.take_zero, List.nil_append, Nat.zero_add] at htake ⊢
        rw [List.map_append, List.map_drop, ← htake, List.take_append, List.length_map, List.take_of_length_le (by simp; omega), List.drop_take]
    · intro x hx
      rcases List.mem_append.1 hx with hx | hx
      · exact h8 x hx
      · exact ho.2 x (List.mem_of_mem_drop hx)

theorem wpList_copy_str {P : Program} {t e : TypeId} (B : ByteT P t e) {w : World} {ops : Array Oper} {rest : List Oper} {o : Oper} {a : Act} {Q : Exit → Act → World → Prop} (hgd : o.guard = none) (d s : Operand) (ts : TypeId)
    (hop : o.op = .call { callee := .builtin .copy, args := #[d, s], argTypes := #[t, ts] })
    {base g n c : Nat} {old l : List Nat} (hd : a.eval d = .slice (some ⟨g, 0, none⟩) n c) (hs : a.eval s = .string (strB l)) (ho : OwnB w base e (.slice (some ⟨g, 0, none⟩) n c) old) (hn : old.length = n) (hl : l.length ≤ n) (h8 : ∀ x ∈ l, x < 256)
    (h : ∀ w', OwnB w' base e (.slice (some ⟨g, 0, none⟩) n c) (l ++ old.drop l.length) → w.grownBy w' (some g) → wpList P ops Q rest (a.put o.dst (goInt l.length)) w') : wpList P ops Q (o :: rest) a w := by
  obtain ⟨w', hr, h1, h2⟩ := run_copy_str B ho hn hl h8 ts o.type
  refine wpList_plain hgd fun _ hK => ?_
  unfold Oper.wp execOp
  simp only [hop, resolve, invoke, builtin, Sem.run_bind, Sem.run_pure, Result.andThen_ok, List.map_toArray, List.map_cons, List.map_nil, hd, hs, hr]
  exact hK _ _ (h w' h1 h2)

/-- make([]byte, n): a row of the call's own that holds n zeros. -/
theorem run_make_bts {P : Program} {t e : TypeId} (B : ByteT P t e) (n : Nat) (hn : n ≤ 140737488351232) (kl kc : IntKind) (u : World) : (Instr.makeSlice t (.int kl (n : Int)) (.int kc (n : Int))).run P u =
    .ok (.slice (some ⟨u.heap.size, 0, none⟩) n n) (u.alloc (.cells (madeCells #[.int .u8 0] n) e)) := by
  obtain ⟨i0, hi, hz0, hz1, hz2⟩ := info_parts B.hi
  have h := run_make (P := P) u t e i0 (.int .u8 0) B.ht hi hz0 kl kc (n : Int) (n : Int) (by omega) (Int.le_refl _) (by rw [hz2]; omega) (by omega)
  have e : (n : Int).toNat = n := by omega
  rw [e] at h
  simpa [hz1, Value.cells] using h
theorem own_zeros {e : TypeId} (u : World) (n : Nat) (hn : n ≤ maxLen) (b : Nat) (hb : b = u.heap.size) (base : Nat) (hbase : base ≤ b) : OwnB (u.alloc (.cells (madeCells #[.int .u8 0] n) e)) base e (.slice (some ⟨b, 0, none⟩) n n) (List.replicate n 0) := by
  subst hb
  have h := World.ownsRow_lit (base := base) (e := e) (size := 1) u (madeCells #[.int .u8 0] n) n hbase hn (by simp [size_madeCells])
  rw [toList_madeCells_one] at h
  refine ⟨?_, fun x hx => by have := (List.mem_replicate.1 hx).2; omega⟩
  rw [List.map_replicate, List.length_replicate]
  exact h
end Go.Proofs.YtnogmgnbhcmajaaDoor

namespace Go.Proofs.YtnogmgnbhcmajaaDoor
namespace Crc

def P : Nat := 2197175160
/-- One shift of the register. -/
def S (r : Nat) : Nat := (r >>> 1) ^^^ (if r % 2 = 1 then P else 0)
/-- k shifts. -/
def Sn : Nat → Nat → Nat
  | 0, r => r
  | k + 1, r => Sn k (S r)
/-- The register behind a list of bytes. -/
def run (r : Nat) (l : List Nat) : Nat := l.foldl (fun r b => Sn 8 (r ^^^ b)) r
def inv (r : Nat) : Nat := r ^^^ 4294967295
/-- The sum of some bytes, gone on from a sum. -/
def upd (s : Nat) (l : List Nat) : Nat := inv (run (inv s) l)
def sum (l : List Nat) : Nat := upd 0 l

theorem xor_lt {a b : Nat} (ha : a < 4294967296) (hb : b < 4294967296) : a ^^^ b < 4294967296 := by
  have := Nat.xor_lt_two_pow (n := 32) (show a < 2 ^ 32 by omega) (show b < 2 ^ 32 by omega)
  omega
theorem P_lt : P < 4294967296 := by decide
theorem S_even {r : Nat} (h : r % 2 = 0) : S r = r / 2 := by
  unfold S; rw [if_neg (by omega), Nat.xor_zero, Nat.shiftRight_succ, Nat.shiftRight_zero]
theorem S_odd {r : Nat} (h : r % 2 = 1) : S r = (r / 2) ^^^ P := by
  unfold S; rw [if_pos h, Nat.shiftRight_succ, Nat.shiftRight_zero]
theorem S_lt {r : Nat} (h : r < 4294967296) : S r < 4294967296 := by
  rcases Nat.mod_two_eq_zero_or_one r with e | e
  · rw [S_even e]; omega
  · rw [S_odd e]; exact xor_lt (by omega) P_lt
theorem S_zero : S 0 = 0 := by decide
theorem S_xor (a b : Nat) : S (a ^^^ b) = S a ^^^ S b := by
  have hm : (a ^^^ b) % 2 = (a + b) % 2 := by
    have h := Nat.xor_mod_two_pow (a := a) (b := b) (n := 1)
    have e2 : (2 : Nat) ^ 1 = 2 := rfl
    rw [e2] at h
    rw [h]
    rcases Nat.mod_two_eq_zero_or_one a with ea | ea <;> rcases Nat.mod_two_eq_zero_or_one b with eb | eb <;> rw [ea, eb]
    · show 0 = _; omega
    · show 1 = _; omega
    · show 1 = _; omega
    · show 0 = _; omega
  unfold S
  rw [Nat.shiftRight_xor_distrib, hm]
  rcases Nat.mod_two_eq_zero_or_one a with ea | ea <;> rcases Nat.mod_two_eq_zero_or_one b with eb | eb
  · rw [if_neg (by omega), if_neg (by omega), if_neg (by omega)]; simp
  · rw [if_pos (by omega), if_neg (by omega), if_pos (by omega)]; simp [Nat.xor_assoc]
  · rw [if_pos (by omega), if_pos (by omega), if_neg (by omega)]
    simp only [Nat.xor_zero]; rw [Nat.xor_assoc, Nat.xor_comm (b >>> 1), ← Nat.xor_assoc]
  · rw [if_neg (by omega), if_pos (by omega), if_pos (by omega)]
    rw [Nat.xor_zero, Nat.xor_assoc, Nat.xor_comm P, Nat.xor_assoc (b >>> 1), Nat.xor_self, Nat.xor_zero]
theorem S_eq_zero {r : Nat} (h : r < 4294967296) (hs : S r = 0) : r = 0 := by
  rcases Nat.mod_two_eq_zero_or_one r with e | e
  · rw [S_even e] at hs; omega
  · rw [S_odd e] at hs
    have h2 : r / 2 = P := by
      have : (r / 2 ^^^ P) ^^^ P = 0 ^^^ P := by rw [hs]
      rwa [Nat.xor_assoc, Nat.xor_self, Nat.xor_zero, Nat.zero_xor] at this
    unfold P at h2; omega

theorem Sn_lt (k : Nat) : ∀ {r : Nat}, r < 4294967296 → Sn k r < 4294967296 := by
  induction k with
  | zero => intro r h; exact h
  | succ k ih => intro r h; exact ih (S_lt h)
theorem Sn_succ (k r : Nat) : Sn (k + 1) r = S (Sn k r) := by
  induction k generalizing r with
  | zero => rfl
  | succ k ih => exact ih (S r)
theorem Sn_add (j k r : Nat) : Sn (j + k) r = Sn k (Sn j r) := by
  induction j generalizing r with
  | zero => simp [Sn]
  | succ j ih => rw [show j + 1 + k = (j + k) + 1 by omega]; exact ih (S r)
theorem Sn_zero (k : Nat) : Sn k 0 = 0 := by
  induction k with
  | zero => rfl
  | succ k ih => show Sn k (S 0) = 0; rw [S_zero, ih]
theorem Sn_xor (k a b : Nat) : Sn k (a ^^^ b) = Sn k a ^^^ Sn k b := by
  induction k generalizing a b with
  | zero => rfl
  | succ k ih => show Sn k (S (a ^^^ b)) = _; rw [S_xor, ih]; rfl
theorem Sn_eq_zero (k : Nat) : ∀ {r : Nat}, r < 4294967296 → Sn k r = 0 → r = 0 := by
  induction k with
  | zero => intro r _ h; exact h
  | succ k ih => intro r h hs; exact S_eq_zero h (ih (S_lt h) hs)

theorem run_nil (r : Nat) : run r [] = r := rfl
theorem run_cons (r b : Nat) (l : List Nat) : run r (b :: l) = run (Sn 8 (r ^^^ b)) l := rfl
theorem run_append (r : Nat) (l m : List Nat) : run r (l ++ m) = run (run r l) m := by simp [run]
theorem run_snoc (r b : Nat) (l : List Nat) : run r (l ++ [b]) = Sn 8 (run r l ^^^ b) := by simp [run]
theorem run_lt (l : List Nat) : ∀ {r : Nat}, r < 4294967296 → (∀ b ∈ l, b < 256) → run r l < 4294967296 := by
  induction l with
  | nil => intro r h _; exact h
  | cons b l ih =>
    intro r h hb
    have h0 := hb b (by simp)
    exact ih (Sn_lt 8 (xor_lt h (by omega))) fun x hx => hb x (by simp [hx])
theorem inv_lt {r : Nat} (h : r < 4294967296) : inv r < 4294967296 := xor_lt h (by decide)
theorem inv_inv (r : Nat) : inv (inv r) = r := by unfold inv; rw [Nat.xor_assoc, Nat.xor_self, Nat.xor_zero]
theorem upd_lt {s : Nat} {l : List Nat} (h : s < 4294967296) (hb : ∀ b ∈ l, b < 256) : upd s l < 4294967296 := inv_lt (run_lt l (inv_lt h) hb)
theorem sum_lt {l : List Nat} (hb : ∀ b ∈ l, b < 256) : sum l < 4294967296 := upd_lt (by decide) hb
theorem upd_append (s : Nat) (l m : List Nat) : upd (upd s l) m = upd s (l ++ m) := by
  unfold upd; rw [inv_inv, run_append]
theorem upd_nil (s : Nat) : upd s [] = s := inv_inv s

/-- The bytes of two texts, mixed. -/
def mix (l m : List Nat) : List Nat := List.zipWith (· ^^^ ·) l m
theorem xor4 (a b c d : Nat) : (a ^^^ b) ^^^ (c ^^^ d) = (a ^^^ c) ^^^ (b ^^^ d) := by
  rw [Nat.xor_assoc, ← Nat.xor_assoc b, Nat.xor_comm b c, Nat.xor_assoc c, ← Nat.xor_assoc]
theorem run_mix (l : List Nat) : ∀ (m : List Nat) (r s : Nat), l.length = m.length → run (r ^^^ s) (mix l m) = run r l ^^^ run s m := by
  induction l with
  | nil => intro m r s h; cases m with
    | nil => rfl
    | cons _ _ => simp at h
  | cons a l ih => intro m r s h; cases m with
    | nil => simp at h
    | cons b m =>
      show run (Sn 8 ((r ^^^ s) ^^^ (a ^^^ b))) (mix l m) = _
      rw [xor4, Sn_xor, ih m _ _ (by simpa using h)]
      rfl
theorem inv_xor (a b : Nat) : inv a ^^^ inv b = a ^^^ b := by
  unfold inv; rw [xor4, Nat.xor_self, Nat.xor_zero]
theorem run_zeros (n : Nat) : ∀ r, run r (List.replicate n 0) = Sn (8 * n) r := by
  induction n with
  | zero => intro r; rfl
  | succ n ih =>
    intro r
    rw [List.replicate_succ, run_cons, Nat.xor_zero, ih, show 8 * (n + 1) = 8 + 8 * n by omega, Sn_add]
theorem mix_zeros (l : List Nat) : mix l (List.replicate l.length 0) = l := by
  induction l with
  | nil => rfl
  | cons a l ih => show (a ^^^ 0) :: mix l (List.replicate l.length 0) = _; rw [ih, Nat.xor_zero]
/-- Sums are straight. -/
theorem sum_mix (l m : List Nat) (h : l.length = m.length) : sum (mix l m) ^^^ sum (List.replicate l.length 0) = sum l ^^^ sum m := by
  unfold sum upd
  rw [inv_xor, inv_xor]
  have hl : (mix l m).length = l.length := by simp [mix, h]
  have e1 := run_mix (mix l m) (List.replicate l.length 0) (inv 0) (inv 0) (by simp [hl])
  have e2 := run_mix l m (inv 0) (inv 0) h
  rw [← e1, ← e2, ← hl, mix_zeros]
/-- Two texts of one length have one sum just where the register that begins at zero comes to zero over what they differ by. -/
theorem sum_eq_iff (l m : List Nat) (h : l.length = m.length) : sum l = sum m ↔ run 0 (mix l m) = 0 := by
  have e := run_mix l m (inv 0) (inv 0) h
  rw [Nat.xor_self] at e
  have e3 : sum l ^^^ sum m = run (inv 0) l ^^^ run (inv 0) m := by unfold sum upd; rw [inv_xor]
  rw [e, ← e3]
  constructor
  · intro h; rw [h, Nat.xor_self]
  · intro h
    have : (sum l ^^^ sum m) ^^^ sum m = 0 ^^^ sum m := by rw [h]
    rwa [Nat.xor_assoc, Nat.xor_self, Nat.xor_zero, Nat.zero_xor] at this
theorem mix_self (l : List Nat) : mix l l = List.replicate l.length 0 := by
  induction l with
  | nil => rfl
  | cons a l ih => show (a ^^^ a) :: mix l l = _; rw [ih, Nat.xor_self]; rfl
/-- One byte turned: what the two texts differ by. -/
theorem mix_set (l : List Nat) : ∀ (k y : Nat), k < l.length → mix (l.set k (l.getD k 0 ^^^ y)) l = List.replicate k 0 ++ y :: List.replicate (l.length - k - 1) 0 := by
  induction l with
  | nil => intro k y h; simp at h
  | cons a l ih =>
    intro k y h
    cases k with
    | zero =>
      show ((a ^^^ y) ^^^ a) :: mix l l = _
      rw [mix_self, Nat.xor_comm a y, Nat.xor_assoc, Nat.xor_self, Nat.xor_zero]
      simp
    | succ k =>
      show (a ^^^ a) :: mix (l.set k (l.getD k 0 ^^^ y)) l = _
      rw [ih k y (by simpa using h), Nat.xor_self, List.replicate_succ]
      simp
theorem sum_set (l : List Nat) (k y : Nat) (h : k < l.length) (hy0 : 0 < y) (hy : y < 4294967296) : sum (l.set k (l.getD k 0 ^^^ y)) ≠ sum l := by
  intro e
  rw [sum_eq_iff _ _ (by simp), mix_set l k y h, run_append, run_zeros, Sn_zero, run_cons, Nat.zero_xor, run_zeros] at e
  have := Sn_eq_zero _ (Sn_lt 8 hy) e
  have := Sn_eq_zero _ hy this
  omega
end Crc
end Go.Proofs.YtnogmgnbhcmajaaDoor

namespace Go.Proofs.YtnogmgnbhcmajaaDoor
open Go.RowKit

theorem ret_u32 {a b : Nat} (h : a = b) : Ending.returned (.int .u32 (a : Int)) = .returned (.int .u32 (b : Int)) := by rw [h]
theorem val_u32 {x : Int} {b : Nat} (h : x = (b : Int)) : Value.int .u32 x = Value.int .u32 (b : Int) := by rw [h]

theorem and_one {q : Nat} (hr : q < 4294967296) : bits .and .u32 (q : Int) 1 = ((q % 2 : Nat) : Int) := by
  have h := u32_and_nat q 1 hr (by decide)
  rw [nat_mask1] at h
  exact h
theorem step_odd {q : Nat} (hr : q < 4294967296) (h : (bits .and .u32 (q : Int) 1 == 1) = true) : bits .xor .u32 ((q : Int) / 2) 2197175160 = ((Crc.S q : Nat) : Int) := by
  have h2 : q % 2 = 1 := by
    have h1 := eq_of_beq h
    rw [and_one hr] at h1
    omega
  rw [show (q : Int) / 2 = ((q / 2 : Nat) : Int) by omega, show (2197175160 : Int) = ((2197175160 : Nat) : Int) from rfl, u32_xor_nat _ _ (by omega) (by decide), Crc.S_odd h2]
  rfl
theorem step_even {q : Nat} (hr : q < 4294967296) (h : (bits .and .u32 (q : Int) 1 == 1) = false) : (q : Int) / 2 = ((Crc.S q : Nat) : Int) := by
  have h2 : q % 2 = 0 := by
    have h1 := ne_of_beq_false h
    rw [and_one hr] at h1
    omega
  rw [Crc.S_even h2]
  omega

theorem xor_max {r : Nat} (h : r < 4294967296) : bits .xor .u32 IntKind.u32.max (r : Int) = ((Crc.inv r : Nat) : Int) := by
  have e : IntKind.u32.max = ((4294967295 : Nat) : Int) := by decide
  rw [e, u32_xor_nat _ _ (by decide) h, Nat.xor_comm]
  rfl
theorem take_run {r : Nat} {l : List Nat} {k : Nat} (h : k < l.length) : Crc.run r (l.take (k + 1)) = Crc.Sn 8 (Crc.run r (l.take k) ^^^ l.getD k 0) := by
  rw [List.take_succ_eq_append_getElem h, Crc.run_snoc, List.getD_eq_getElem?_getD, List.getElem?_eq_getElem h]
  rfl

theorem step_odd' {q : Nat} (hr : q < 4294967296) (h : ((q : Int) % 2 == 1) = true) : bits .xor .u32 ((q : Int) / 2) 2197175160 = ((Crc.S q : Nat) : Int) :=
  step_odd hr (by rw [and_one hr]; exact h)
theorem step_even' {q : Nat} (h : ((q : Int) % 2 == 1) = false) : (q : Int) / 2 = ((Crc.S q : Nat) : Int) := by
  have h2 : q % 2 = 0 := by
    have h1 := ne_of_beq_false h
    omega
  rw [Crc.S_even h2]
  omega

end Go.Proofs.YtnogmgnbhcmajaaDoor

namespace Go.Proofs.YtnogmgnbhcmajaaDoor

section
variable {P : Program} {md : Region.Mode} {ops : Array Oper} {Q : Exit → Act → World → Prop} {S S' : World → Prop}

/-- From here on a stronger condition may be asked of the world. -/
theorem wpAnyH_strong (hS : ∀ w, S' w → S w) : ∀ (fuel : Nat) (listed : Array Bool) (a : Act) (w : World), wpAnyH P md ops Q S' fuel listed a w → wpAnyH P md ops Q S fuel listed a w
  | 0, _, _, _, h => h
  | fuel + 1, _, _, _, h => ⟨h.1, fun i hi => wpOp_mono (fun a' w' h' => ⟨hS _ h'.1, wpAnyH_strong hS fuel _ a' w' h'.2⟩) (h.2 i hi)⟩

theorem take_ {i : Nat} (d : Nat) {oi : Oper} {v : Value} {fuel : Nat} {listed : Array Bool} {a : Act} {w : World} (hi : ops[i]? = some oi) (hd : oi.dst = some d)
    (hs : Region.noSelect ops = true) (hf : Region.free md ops listed i = true) (hr : (Region.ready md ops listed).contains i = true)
    (hQ : ∀ c a w, Q (.panic c) (a.put oi.dst v) w → Q (.panic c) a w) (hy : YieldsIf P ops S oi v a) (hS : S w)
    (h : wpAnyH P md ops Q S fuel (listed.setIfInBounds i true) (a.put (some d) v) w) : wpAnyH P md ops Q S (fuel + 1) listed a w :=
  wpAnyH_take hi hs hf hr hQ hy hS (by rw [hd]; exact h)

/-- One operation alone may come up. -/
theorem one_ {i : Nat} (o : Oper) {fuel : Nat} {listed : Array Bool} {a : Act} {w : World} (hr : Region.ready md ops listed = [i]) (ho : ops[i]? = some o)
    (h : ∀ K' : Act → World → Prop, Shut (∀ a w, S w → (S w → wpAnyH P md ops Q S fuel (listed.setIfInBounds i true) a w) → K' a w) → if Region.wanted o (yielded ops a.tmps) = true then Oper.wp P o a w K' Q else K' (a.put o.dst undef) w) :
    wpAnyH P md ops Q S (fuel + 1) listed a w := wpAnyH_ready hr (by simp) (AllReadyH.cons ho h AllReadyH.nil)
/-- One of two operations may come up. -/
theorem two_ {i j : Nat} (o o' : Oper) {fuel : Nat} {listed : Array Bool} {a : Act} {w : World} (hr : Region.ready md ops listed = [i, j]) (ho : ops[i]? = some o) (ho' : ops[j]? = some o')
    (h : ∀ K' : Act → World → Prop, Shut (∀ a w, S w → (S w → wpAnyH P md ops Q S fuel (listed.setIfInBounds i true) a w) → K' a w) → if Region.wanted o (yielded ops a.tmps) = true then Oper.wp P o a w K' Q else K' (a.put o.dst undef) w)
    (h' : ∀ K' : Act → World → Prop, Shut (∀ a w, S w → (S w → wpAnyH P md ops Q S fuel (listed.setIfInBounds j true) a w) → K' a w) → if Region.wanted o' (yielded ops a.tmps) = true then Oper.wp P o' a w K' Q else K' (a.put o'.dst undef) w) :
    wpAnyH P md ops Q S (fuel + 1) listed a w := wpAnyH_ready hr (by simp) (AllReadyH.cons ho h (AllReadyH.cons ho' h' AllReadyH.nil))
end
end Go.Proofs.YtnogmgnbhcmajaaDoor
