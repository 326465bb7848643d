/-
  Words for memory, over any program: only some blocks have turned; a block that is known whole; rows of strings. They serve objects behind pointers whose footprint is a list of blocks.
-/
import Derived.Test.YteefjmdallpihaaGreatDoorLaw
import Derived.Test.YteefjmdallpihaaGreatDoorBytes
import Derived.Below
import Derived.Laws.OwnMore
import Derived.Laws.Rows
import Derived.Laws.NewBlocks
import Derived.Deep.Draws
import Derived.Deep.AppendLies
import Derived.Deep.OwnRows
import Derived.Lib.BufferWrite
namespace Go.Proofs.YteefjmdallpihaaGreatDoor
open Go.RowKit

/-- Blocks of F, and new ones, may have turned: no other. -/
structure Only (F : List Nat) (w w' : World) : Prop where
  os : w'.os = w.os
  tape : w'.tape = w.tape
  output : w'.output = w.output
  size : w.heap.size ≤ w'.heap.size
  block : ∀ k, k < w.heap.size → k ∉ F → w'.heap[k]? = w.heap[k]?

section
variable {F G : List Nat} {w a b c : World}
theorem Only.refl (F : List Nat) (w : World) : Only F w w := ⟨rfl, rfl, rfl, Nat.le_refl _, fun _ _ _ => rfl⟩
theorem Only.trans (h : Only F a b) (k : Only G b c) (hG : ∀ x ∈ G, x ∈ F ∨ a.heap.size ≤ x) : Only F a c :=
  ⟨k.os.trans h.os, k.tape.trans h.tape, k.output.trans h.output, Nat.le_trans h.size k.size, fun i hi hn => (k.block i (Nat.lt_of_lt_of_le hi h.size) (fun hg => by
    rcases hG i hg with h' | h'
    · exact hn h'
    · omega)).trans (h.block i hi hn)⟩
theorem Only.mono (h : Only F a b) (hG : ∀ x ∈ F, x ∈ G ∨ a.heap.size ≤ x) : Only G a b := (Only.refl G a).trans h hG
theorem Only.drew (h : Only F a b) : Only F a b.drew := ⟨h.os, h.tape, h.output, h.size, h.block⟩
theorem Only.drewN (h : Only F a b) (n : Nat) : Only F a (b.drewN n) := ⟨h.os, h.tape, h.output, h.size, h.block⟩
theorem Only.alloc (h : Only F a b) (o : Obj) : Only F a (b.alloc o) :=
  h.trans (G := []) ⟨rfl, rfl, rfl, by simp, fun k hk _ => Below.heap_alloc _ _ _ hk⟩ (fun _ hx => by cases hx)
theorem Only.setCell (h : Only F a b) {p : Addr} (hp : p.block ∈ F ∨ a.heap.size ≤ p.block) (u : Value) : Only F a (b.setCell p u) :=
  h.trans (G := [p.block]) ⟨rfl, rfl, rfl, by simp [World.setCell], fun k _ hk => Below.heap_setCell _ _ _ _ (fun e => hk (by simp [e]))⟩ (fun x hx => by
    have : x = p.block := by simpa using hx
    rw [this]; exact hp)
theorem Only.grown {row : Option Nat} (h : Only F a b) (hg : b.grownBy c row) (hr : ∀ k, row = some k → k ∈ F ∨ a.heap.size ≤ k) : Only F a c :=
  h.trans (G := row.toList) ⟨hg.os, hg.tape, hg.output, hg.size, fun k hk hn => hg.block k hk (fun e => hn (by simp [← e]))⟩ (fun x hx => hr x (by simpa using hx))
theorem Only.of_below (h : Below w.heap.size w a) : Only F w a := ⟨h.os, h.tape, h.output, h.size, fun k hk _ => h.block k hk⟩
theorem Only.under (h : Only F a b) (hb : Below b.heap.size b c) : Only F a c := h.trans (Only.of_below (F := []) hb) (fun _ hx => by cases hx)
theorem Only.below (h : Only F a b) {B : Nat} (hB : B ≤ a.heap.size) (hF : ∀ x ∈ F, B ≤ x) : Below B a b :=
  ⟨h.os, h.tape, h.output, h.size, fun k hk => h.block k (by omega) (fun hm => by have := hF k hm; omega)⟩
theorem Only.below_nil (h : Only [] a b) : Below a.heap.size a b := h.below (Nat.le_refl _) (fun _ hx => by cases hx)
theorem Only.from_ (h : Only F a b) {w : World} (hw : Below w.heap.size w a) (hF : ∀ x ∈ F, w.heap.size ≤ x) : Below w.heap.size w b :=
  hw.trans (h.below hw.size hF)
theorem Only.cell (h : Only F a b) {p : Addr} (hp : p.block < a.heap.size) (hn : p.block ∉ F) : b.cell? p = a.cell? p := World.cell?_of_block (h.block _ hp hn)
theorem Only.frozen (h : Only F a b) {p : Addr} (hp : p.block < a.heap.size) (hn : p.block ∉ F) : b.frozen? p = a.frozen? p := World.frozen?_of_block (h.block _ hp hn)
theorem Only.heap (h : Only F a b) {g : Nat} {o : Obj} (hg : a.heap[g]? = some o) (hn : g ∉ F) : b.heap[g]? = some o :=
  (h.block g (Array.getElem?_eq_some_iff.1 hg).1 hn).trans hg
theorem Only.row {base : Nat} {e : TypeId} {size : Nat} {v : Value} {n : Nat} {xs : List Value} (h : Only F a b) (ho : a.ownsRow base e size v n xs) (hn : ∀ g, v.ownBlock = some g → g ∉ F) : b.ownsRow base e size v n xs := by
  refine ⟨ho.1, ?_⟩
  rcases ho.2 with h0 | ⟨g, cap, cur, rfl, hb, hg, r⟩
  · exact .inl h0
  · exact .inr ⟨g, cap, cur, rfl, hb, h.heap hg (hn g rfl), r⟩
theorem Only.bts {A : Option Addr} {n : Nat} {l : List Nat} (h : Only F a b) (hb : Bts a A n l) (hA : 0 < n → ∀ x, A = some x → x.block ∉ F) : Bts b A n l :=
  ⟨hb.1, hb.2.1, fun hn => by
    obtain ⟨g, off, e, hl, hc⟩ := hb.2.2 hn
    exact ⟨g, off, e, Nat.lt_of_lt_of_le hl h.size, fun i hi => (h.cell (p := ⟨g, off + i, none⟩) hl (hA hn ⟨g, off, none⟩ e)).trans (hc i hi)⟩⟩
end

/-- Block g is just these cells, of element type t; none is frozen. -/
def Held (w : World) (g : Nat) (t : TypeId) (cs : Array Value) : Prop := w.heap[g]? = some (.cells cs t (0, 0))

section
variable {w w' : World} {g : Nat} {t : TypeId} {cs : Array Value}
theorem Held.lt (h : Held w g t cs) : g < w.heap.size := (Array.getElem?_eq_some_iff.1 h).1
theorem Held.cell (h : Held w g t cs) (i : Nat) : w.cell? ⟨g, i, none⟩ = cs[i]? := cell_of_row w g i cs t (0, 0) h
theorem Held.frozen (h : Held w g t cs) (i : Nat) : w.frozen? ⟨g, i, none⟩ = false := frozen_of_row w g i cs t h
theorem Held.new (w : World) (t : TypeId) (cs : Array Value) {b : Nat} (hb : b = w.heap.size) : Held (w.alloc (.cells cs t)) b t cs := by subst hb; exact heap_alloc_new w _
theorem Held.drew (h : Held w g t cs) : Held w.drew g t cs := h
theorem Held.drewN (h : Held w g t cs) (n : Nat) : Held (w.drewN n) g t cs := h
theorem Held.alloc (h : Held w g t cs) (o : Obj) : Held (w.alloc o) g t cs := (Below.heap_alloc w o g h.lt).trans h
theorem Held.set_ (h : Held w g t cs) (i : Nat) (u : Value) : Held (w.setCell ⟨g, i, none⟩ u) g t (cs.setIfInBounds i u) := heap_setCell_same w g i cs t u h
theorem Held.far (h : Held w g t cs) {p : Addr} (hp : g ≠ p.block) (u : Value) : Held (w.setCell p u) g t cs := (Below.heap_setCell w p u g hp).trans h
theorem Held.only {F : List Nat} (h : Held w g t cs) (k : Only F w w') (hg : g ∉ F) : Held w' g t cs := k.heap h hg
theorem Held.below {B : Nat} (h : Held w g t cs) (hb : Below B w w') (hg : g < B) : Held w' g t cs := (hb.block g hg).trans h
theorem Held.ne_ {g' : Nat} {t' : TypeId} {cs' : Array Value} (h : Held w g t cs) (h' : Held w g' t' cs') (hne : t ≠ t') : g ≠ g' := by
  rintro rfl
  unfold Held at h h'
  rw [h] at h'
  injection h' with h'
  injection h' with _ ht
  exact hne ht
theorem Held.ne_row {base : Nat} {e : TypeId} {size n : Nat} {v : Value} {xs : List Value} (hg : Held w g t cs) (h : w.ownsRow base e size v n xs) (hne : e ≠ t) : ∀ b, v.ownBlock = some b → b ≠ g := by
  intro b hb
  rcases h.2 with ⟨rfl, _⟩ | ⟨g', cap, cur, rfl, _, hh, _⟩
  · cases hb
  · have : g' = b := by simpa [Value.ownBlock] using hb
    subst this
    exact Held.ne_ (t := e) hh hg hne
end

/-- A row, behind a store into another block. -/
theorem ownsRow_far {w : World} {base : Nat} {e : TypeId} {size : Nat} {v : Value} {n : Nat} {xs : List Value} (h : w.ownsRow base e size v n xs) {p : Addr} (hp : ∀ g, v.ownBlock = some g → g ≠ p.block) (u : Value) :
    (w.setCell p u).ownsRow base e size v n xs :=
  (Only.refl [p.block] w).setCell (by simp) u |>.row h fun g hg hm => hp g hg (by simpa using hm)
theorem ownsRow_drew {w : World} {base : Nat} {e : TypeId} {size : Nat} {v : Value} {n : Nat} {xs : List Value} (h : w.ownsRow base e size v n xs) : w.drew.ownsRow base e size v n xs := h
/-- Two rows of different element types lie in different blocks. -/
theorem rows_ne {w : World} {base base' : Nat} {e e' : TypeId} {size size' : Nat} {v v' : Value} {n n' : Nat} {xs xs' : List Value} (h : w.ownsRow base e size v n xs) (h' : w.ownsRow base' e' size' v' n' xs') (hne : e ≠ e') :
    ∀ g, v.ownBlock = some g → v'.ownBlock ≠ some g := by
  intro g hg hg'
  rcases h.2 with ⟨rfl, _⟩ | ⟨g1, cap, cur, rfl, _, hh, _⟩
  · cases hg
  · have e1 : g1 = g := by simpa [Value.ownBlock] using hg
    subst e1
    rcases h'.2 with ⟨rfl, _⟩ | ⟨g2, cap2, cur2, rfl, _, hh2, _⟩
    · cases hg'
    · have e2 : g2 = g1 := by simpa [Value.ownBlock] using hg'
      subst e2
      rw [hh] at hh2
      injection hh2 with hh2
      injection hh2 with _ ht
      exact hne ht

/-- The value of a text of bytes. -/
def strV (l : List Nat) : Value := .string (strB l)
/-- The bytes of a string. -/
def nums (s : ByteArray) : List Nat := s.data.toList.map fun b => b.toNat
theorem nums_lt (s : ByteArray) : ∀ x ∈ nums s, x < 256 := fun x hx => by
  obtain ⟨b, _, rfl⟩ := List.mem_map.1 hx
  exact b.toNat_lt
theorem nums_length (s : ByteArray) : (nums s).length = s.size := by unfold nums; rw [List.length_map, Array.length_toList]; rfl
theorem strB_nums (s : ByteArray) : strB (nums s) = s := by
  apply ByteArray.ext
  apply Array.toList_inj.1
  simp only [strB, strOfNums_data, nums, List.map_map]
  conv => rhs; rw [← List.map_id s.data.toList]
  apply List.map_congr_left
  intro b _
  simp
theorem nums_strB {l : List Nat} (h : ∀ x ∈ l, x < 256) : nums (strB l) = l := strB_inj (nums_lt _) h (strB_nums _)
theorem strB_size (l : List Nat) : (strB l).size = l.length := by simp [strB, strOfNums_size]
theorem strB_nil : strB [] = ⟨#[]⟩ := rfl

theorem byteCells_strB {l : List Nat} (h : ∀ x ∈ l, x < 256) : Lib.byteCells (strB l).data.toList = l.map u8v := by
  have e : (strB l).data.toList.map (fun b => b.toNat) = l := nums_strB h
  conv => rhs; rw [← e]
  simp only [Lib.byteCells, List.map_map]
  rfl

/-- copy(row, text): the text's bytes go over the head of a row of the call's own. -/
theorem run_copy_str {P : Program} {t e : TypeId} (B : ByteT P t e) {w : World} {base g n c : Nat} {old l : List Nat} (ho : OwnB w base e (.slice (some ⟨g, 0, none⟩) n c) old) (hn : old.length = n) (hl : l.length ≤ n) (h8 : ∀ x ∈ l, x < 256)
    (ts ty : TypeId) : ∃ w', (Builtin.copy_ #[t, ts] ty #[.slice (some ⟨g, 0, none⟩) n c, .string (strB l)]).run P w = .ok (goInt l.length) w' ∧ OwnB w' base e (.slice (some ⟨g, 0, none⟩) n c) (l ++ old.drop l.length) ∧ w.grownBy w' (some g) := by
  subst hn
  rcases ho.1.2 with ⟨h, _⟩ | ⟨g', cap, cur, h, hb, hg, hnc, hcm, hcs, htake⟩
  · simp at h
  · simp only [Value.slice.injEq, Option.some.injEq, Addr.mk.injEq, and_true, true_and] at h
    obtain ⟨rfl, rfl⟩ := h
    obtain ⟨i, hi, _, hi1, _⟩ := info_parts B.hi
    have hcs' : cur.size = c := by omega
    have hsz : (strB l).size = l.length := strB_size l
    have hr := Lib.run_copy_row_string (P := P) w t ts ty e g 0 old.length c (strB l) cur e B.ht (by rw [hi]; simp [hi1]) hg (by omega) (by omega)
    rw [byteCells_strB h8, hsz] at hr
    have el : (l ++ old.drop l.length).length = old.length := by simp; omega
    refine ⟨_, hr, ⟨?_, ?_⟩, ⟨rfl, rfl, rfl, by simp, fun k _ hk => setRow_other w g k _ (fun e => hk (by simp [e]))⟩⟩
    · rw [el]
      refine ⟨by simp; omega, .inr ⟨g, c, _, rfl, hb, setRow_heap w g cur _ e _ hg, hnc, hcm, ?_, ?_⟩⟩
      · simp only [List.size_toArray, List.length_append, List.length_take, List.length_drop, List.length_map, Array.length_toList]
        omega
      · simp only [Nat.mul_one, List.take_zero, List.nil_append, Nat.zero_add] at htake ⊢
        rw [List.map_append, List.map_drop, ← htake, List.take_append, List.length_map, List.take_of_length_le (by simp; omega), List.drop_take]
    · intro x hx
      rcases List.mem_append.1 hx with hx | hx
      · exact h8 x hx
      · exact ho.2 x (List.mem_of_mem_drop hx)

theorem wpList_copy_str {P : Program} {t e : TypeId} (B : ByteT P t e) {w : World} {ops : Array Oper} {rest : List Oper} {o : Oper} {a : Act} {Q : Exit → Act → World → Prop} (hgd : o.guard = none) (d s : Operand) (ts : TypeId)
    (hop : o.op = .call { callee := .builtin .copy, args := #[d, s], argTypes := #[t, ts] })
    {base g n c : Nat} {old l : List Nat} (hd : a.eval d = .slice (some ⟨g, 0, none⟩) n c) (hs : a.eval s = .string (strB l)) (ho : OwnB w base e (.slice (some ⟨g, 0, none⟩) n c) old) (hn : old.length = n) (hl : l.length ≤ n) (h8 : ∀ x ∈ l, x < 256)
    (h : ∀ w', OwnB w' base e (.slice (some ⟨g, 0, none⟩) n c) (l ++ old.drop l.length) → w.grownBy w' (some g) → wpList P ops Q rest (a.put o.dst (goInt l.length)) w') : wpList P ops Q (o :: rest) a w := by
  obtain ⟨w', hr, h1, h2⟩ := run_copy_str B ho hn hl h8 ts o.type
  refine wpList_plain hgd fun _ hK => ?_
  unfold Oper.wp execOp
  simp only [hop, resolve, invoke, builtin, Sem.run_bind, Sem.run_pure, Result.andThen_ok, List.map_toArray, List.map_cons, List.map_nil, hd, hs, hr]
  exact hK _ _ (h w' h1 h2)

/-- make([]byte, n): a row of the call's own that holds n zeros. -/
theorem run_make_bts {P : Program} {t e : TypeId} (B : ByteT P t e) (n : Nat) (hn : n ≤ 140737488351232) (kl kc : IntKind) (u : World) : (Instr.makeSlice t (.int kl (n : Int)) (.int kc (n : Int))).run P u =
    .ok (.slice (some ⟨u.heap.size, 0, none⟩) n n) (u.alloc (.cells (madeCells #[.int .u8 0] n) e)) := by
  obtain ⟨i0, hi, hz0, hz1, hz2⟩ := info_parts B.hi
  have h := run_make (P := P) u t e i0 (.int .u8 0) B.ht hi hz0 kl kc (n : Int) (n : Int) (by omega) (Int.le_refl _) (by rw [hz2]; omega) (by omega)
  have e : (n : Int).toNat = n := by omega
  rw [e] at h
  simpa [hz1, Value.cells] using h
theorem own_zeros {e : TypeId} (u : World) (n : Nat) (hn : n ≤ maxLen) (b : Nat) (hb : b = u.heap.size) (base : Nat) (hbase : base ≤ b) : OwnB (u.alloc (.cells (madeCells #[.int .u8 0] n) e)) base e (.slice (some ⟨b, 0, none⟩) n n) (List.replicate n 0) := by
  subst hb
  have h := World.ownsRow_lit (base := base) (e := e) (size := 1) u (madeCells #[.int .u8 0] n) n hbase hn (by simp [size_madeCells])
  rw [toList_madeCells_one] at h
  refine ⟨?_, fun x hx => by have := (List.mem_replicate.1 hx).2; omega⟩
  rw [List.map_replicate, List.length_replicate]
  exact h
end Go.Proofs.YteefjmdallpihaaGreatDoor
