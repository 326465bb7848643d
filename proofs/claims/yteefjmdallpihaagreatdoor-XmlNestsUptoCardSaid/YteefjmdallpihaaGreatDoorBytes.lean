/-
  Rows of bytes that the call itself makes, over any program: appended to from a slice of bytes, read as a list, stored into.
-/
import Derived.Test.YteefjmdallpihaaGreatDoorLaw
import Derived.Laws.AppendOwn
import Derived.Laws.OwnMore
import Derived.OwnWalk
import Derived.Maps.AppendAt
import Derived.Laws.BytesArg
import Derived.Deep.Draws
import Derived.Laws.BitsAllLaws
namespace Go.Proofs.YteefjmdallpihaaGreatDoor
open Go.RowKit

def u8v (x : Nat) : Value := .int .u8 ((x : Nat) : Int)

/-- t is []byte, e is byte. -/
structure ByteT (P : Program) (t e : TypeId) : Prop where
  ht : P.underlying t = some (.slice e)
  he : P.underlying e = some (.int .u8)
  hc : P.cellsOf e = 1
  hi : (P.info? e).map (fun i => (i.zero, i.size, i.bytes)) = some (some (.int .u8 0), 1, 1)

/-- A row of the call's own that holds the bytes l. -/
def OwnB (w : World) (base : Nat) (e : TypeId) (v : Value) (l : List Nat) : Prop := w.ownsRow base e 1 v l.length (l.map u8v) ∧ ∀ x ∈ l, x < 256

theorem flip_byte {x j : Nat} (hx : x < 256) (hj : j < 8) : bits .xor .u8 (x : Int) ((2 : Int) ^ j % 256) = ((x ^^^ 2 ^ j : Nat) : Int) ∧ x ^^^ 2 ^ j < 256 ∧ 0 < 2 ^ j ∧ 2 ^ j < 256 := by
  have hy : 2 ^ j < 2 ^ 8 := Nat.pow_lt_pow_right (by omega) hj
  have hp : 0 < 2 ^ j := Nat.two_pow_pos j
  have e : (2 : Int) ^ j % 256 = ((2 ^ j : Nat) : Int) := by
    have h : ((2 ^ j : Nat) : Int) = (2 : Int) ^ j := Int.natCast_pow 2 j
    rw [← h]
    omega
  have hlt := Nat.xor_lt_two_pow (n := 8) (show x < 2 ^ 8 by omega) hy
  exact ⟨by rw [e, u8_xor_nat _ _ hx (by omega)], by omega, hp, by omega⟩

section
variable {P : Program} {t e : TypeId} {w : World}

theorem Bts.at_ {A : Option Addr} {n : Nat} {l : List Nat} (h : Bts w A n l) {ad : Addr} (hA : A = some ad) : ∀ j u, (l.map u8v)[j]? = some u → w.cell? (ad.add j) = some u := by
  intro j u hu
  rw [List.getElem?_map] at hu
  obtain ⟨x, hx, rfl⟩ := Option.map_eq_some_iff.1 hu
  have hj : j < l.length := by
    rcases Nat.lt_or_ge j l.length with h' | h'
    · exact h'
    · rw [List.getElem?_eq_none h'] at hx; cases hx
  obtain ⟨b, off, hb, _, hc⟩ := h.2.2 (by have := h.1; omega)
  rw [hb] at hA
  injection hA with hA
  subst hA
  rw [WideShapes.add_plain, hc j (by have := h.1; omega), List.getD_eq_getElem?_getD, hx]
  rfl

theorem Bts.cell0 {g n : Nat} {l : List Nat} (h : Bts w (some ⟨g, 0, none⟩) n l) {i : Nat} (hi : i < n) : w.cell? ⟨g, i, none⟩ = some (.int .u8 ((l.getD i 0 : Nat) : Int)) := by
  obtain ⟨b, off, e, _, hc⟩ := h.2.2 (by omega)
  injection e with e
  injection e with e1 e2
  subst e1 e2
  have := hc i hi
  rwa [Nat.zero_add] at this
theorem run_append_bts (B : ByteT P t e) (base : Nat) (ty : TypeId) (v : Value) (k : List Nat) (hown : OwnB w base e v k)
    (A : Option Addr) (m c : Nat) (l : List Nat) (hb : Bts w A m l) (hr : k.length + m ≤ 140737488355328) (hbase : base ≤ w.heap.size) :
    ∃ v' w', (Builtin.append_ #[t, t] ty #[v, .slice A m c]).run P w = .ok v' w' ∧ OwnB w' base e v' (k ++ l) ∧ w.grownBy w' v.ownBlock ∧
      (v'.ownBlock = v.ownBlock ∨ v'.ownBlock = some w.heap.size) := by
  obtain ⟨i, hi, hz, hsize, hby⟩ := info_parts B.hi
  have h8 : ∀ x ∈ k ++ l, x < 256 := fun x hx => (List.mem_append.1 hx).elim (hown.2 x) (hb.2.1 x)
  rcases A with _ | ad
  · have hm : m = 0 := by
      rcases Nat.eq_zero_or_pos m with h0 | h0
      · exact h0
      · obtain ⟨b, off, h, _⟩ := hb.2.2 h0
        cases h
    subst hm
    have hn : l = [] := List.eq_nil_of_length_eq_zero hb.1
    subst hn
    refine ⟨v, w, ?_, ⟨by simpa using hown.1, by simpa using hown.2⟩, World.grownBy.refl w _, .inl rfl⟩
    rcases hown.1.2 with ⟨rfl, _⟩ | ⟨g, cap, cur, rfl, _, _, hnc, _⟩
    · simp [Builtin.append_, run_underlying B.ht, sizeOf, typeInfo, hi, Builtin.lenOf, Builtin.firstCells]
    · simp [Builtin.append_, run_underlying B.ht, sizeOf, typeInfo, hi, Builtin.lenOf, Builtin.firstCells, hnc, storeCells]
  · obtain ⟨v', w', hrun, h2, h3, _, h5⟩ := run_append_own_at (P := P) w base t ty e i (.int .u8 0) 1 1 B.ht hi hz hsize hby rfl (by omega) v k.length (k.map u8v) hown.1 ad m c (l.map u8v) (by simp [hb.1]) (hb.at_ rfl)
      (fun u hu => by obtain ⟨x, _, rfl⟩ := List.mem_map.1 hu; rfl) (by simp only [maxLen]; omega) (by omega) hbase
    exact ⟨v', w', hrun, ⟨by rw [List.length_append, List.map_append, hb.1]; exact h2, h8⟩, h3, h5⟩

theorem wp_append_bts (B : ByteT P t e) {o : Oper} {a : Act} {K : Act → World → Prop} {Q : Exit → Act → World → Prop} (s x : Operand)
    (ho : o.op = .call { callee := .builtin .append, args := #[s, x], argTypes := #[t, t] })
    (base : Nat) (v : Value) (k : List Nat) (hs : a.eval s = v) (hown : OwnB w base e v k)
    (A : Option Addr) (m c : Nat) (l : List Nat) (hx : a.eval x = .slice A m c) (hb : Bts w A m l) (hr : k.length + m ≤ 140737488355328) (hbase : base ≤ w.heap.size)
    (h : ∀ v' w', OwnB w' base e v' (k ++ l) → w.grownBy w' v.ownBlock → (v'.ownBlock = v.ownBlock ∨ v'.ownBlock = some w.heap.size) → K (a.put o.dst v') w') : o.wp P a w K Q := by
  obtain ⟨v', w', hrun, h2, h3, h4⟩ := run_append_bts B base o.type v k hown A m c l hb hr hbase
  unfold Oper.wp execOp
  simp only [ho, resolve, invoke, builtin, Sem.run_bind, Sem.run_pure, Result.andThen_ok, List.map_toArray, List.map_cons, List.map_nil, hs, hx, hrun]
  exact h v' w' h2 h3 h4

/-- append(v, x...) at the head of a plain list of operations. -/
theorem wpList_append_bts (B : ByteT P t e) {ops : Array Oper} {rest : List Oper} {o : Oper} {a : Act} {Q : Exit → Act → World → Prop} (hgd : o.guard = none) (s x : Operand)
    (ho : o.op = .call { callee := .builtin .append, args := #[s, x], argTypes := #[t, t] })
    (base : Nat) (v : Value) (k : List Nat) (hs : a.eval s = v) (hown : OwnB w base e v k)
    (A : Option Addr) (m c : Nat) (l : List Nat) (hx : a.eval x = .slice A m c) (hb : Bts w A m l) (hr : k.length + m ≤ 140737488355328) (hbase : base ≤ w.heap.size)
    (h : ∀ v' w', OwnB w' base e v' (k ++ l) → w.grownBy w' v.ownBlock → (v'.ownBlock = v.ownBlock ∨ v'.ownBlock = some w.heap.size) → wpList P ops Q rest (a.put o.dst v') w') : wpList P ops Q (o :: rest) a w :=
  wpList_plain hgd fun _ hK => wp_append_bts B s x ho base v k hs hown A m c l hx hb hr hbase fun v' w' h2 h3 h4 => hK _ _ (h v' w' h2 h3 h4)

/-- An empty row that has just been laid. -/
theorem ownB_new (base : Nat) (hb : base ≤ w.heap.size) (b : Nat) (hbe : b = w.heap.size) : OwnB (w.alloc (.cells #[] e)) base e (.slice (some ⟨b, 0, none⟩) 0 0) [] := by
  subst hbe
  refine ⟨⟨rfl, .inr ⟨_, 0, #[], rfl, hb, heap_alloc_new w _, Nat.le_refl _, by simp [maxLen], rfl, rfl⟩⟩, by simp⟩

/-- What an owned row is, read. -/
theorem OwnB.form {base : Nat} {v : Value} {l : List Nat} (h : OwnB w base e v l) (hp : 0 < l.length) :
    ∃ g cap, v = .slice (some ⟨g, 0, none⟩) l.length cap ∧ base ≤ g ∧ g < w.heap.size ∧ Bts w (some ⟨g, 0, none⟩) l.length l ∧ ∀ j, w.frozen? ⟨g, j, none⟩ = false := by
  rcases h.1.2 with ⟨_, h0⟩ | ⟨g, cap, cur, rfl, hg, hh, hn, hcap, hsz, htake⟩
  · omega
  · have hlt := (h.1.lt g rfl).2
    refine ⟨g, cap, rfl, hg, hlt, ⟨rfl, h.2, fun _ => ⟨g, 0, rfl, hlt, fun i hi => ?_⟩⟩, fun j => h.1.frozenAt j⟩
    rw [Nat.zero_add, h.1.cellAt i (by omega), List.getElem?_map, List.getD_eq_getElem?_getD, List.getElem?_eq_getElem hi]
    rfl
theorem OwnB.form' {base n : Nat} {v : Value} {l : List Nat} (h : OwnB w base e v l) (hn : l.length = n) (hp : 0 < n) :
    ∃ g cap, v = .slice (some ⟨g, 0, none⟩) n cap ∧ base ≤ g ∧ g < w.heap.size ∧ Bts w (some ⟨g, 0, none⟩) n l ∧ (∀ j, w.frozen? ⟨g, j, none⟩ = false) ∧ OwnB w base e (.slice (some ⟨g, 0, none⟩) n cap) l := by
  subst hn
  obtain ⟨g, cap, rfl, h1, h2, h3, h4⟩ := h.form hp
  exact ⟨g, cap, rfl, h1, h2, h3, h4, h⟩
theorem OwnB.any {base : Nat} {v : Value} {l : List Nat} (h : OwnB w base e v l) : ∃ A cap, v = .slice A l.length cap ∧ Bts w A l.length l := by
  rcases Nat.eq_zero_or_pos l.length with h0 | h0
  · have hl : l = [] := List.eq_nil_of_length_eq_zero h0
    subst hl
    have hb : ∀ A, Bts w A 0 [] := fun A => ⟨rfl, by simp, fun h => by omega⟩
    rcases h.1.2 with ⟨rfl, _⟩ | ⟨g, cap, cur, rfl, _⟩
    · exact ⟨none, 0, rfl, hb _⟩
    · exact ⟨_, cap, rfl, hb _⟩
  · obtain ⟨g, cap, rfl, _, _, hb, _⟩ := h.form h0
    exact ⟨_, cap, rfl, hb⟩
theorem OwnB.grown {base : Nat} {v : Value} {l : List Nat} {a w' : World} (ho : OwnB w base e v l) (hb : Below base a w) (hg : w.grownBy w' v.ownBlock) (hs : base ≤ w.heap.size) : Below base a w' :=
  hb.grown hg hs fun k hk => (ho.1.lt k hk).1
theorem OwnB.stored {base g cap : Nat} {l : List Nat} (h : OwnB w base e (.slice (some ⟨g, 0, none⟩) l.length cap) l) (j : Nat) (x : Nat) (hx : x < 256) :
    OwnB (w.setCell ⟨g, j, none⟩ (u8v x)) base e (.slice (some ⟨g, 0, none⟩) l.length cap) (l.set j x) :=
  ⟨by rw [List.length_set, List.map_set]; exact (h.1.stored j (u8v x)).1, fun y hy => by
    rcases List.mem_or_eq_of_mem_set hy with hy | rfl
    · exact h.2 y hy
    · exact hx⟩
theorem OwnB.drew {base : Nat} {v : Value} {l : List Nat} (h : OwnB w base e v l) : OwnB w.drew base e v l := h
theorem OwnB.stored' {base g n cap : Nat} {l : List Nat} (h : OwnB w base e (.slice (some ⟨g, 0, none⟩) n cap) l) (hn : l.length = n) (j : Nat) (x : Nat) (hx : x < 256) :
    OwnB (w.setCell ⟨g, j, none⟩ (u8v x)) base e (.slice (some ⟨g, 0, none⟩) n cap) (l.set j x) := by
  subst hn
  exact h.stored j x hx
theorem OwnB.alloc {base : Nat} {v : Value} {l : List Nat} (h : OwnB w base e v l) (o : Obj) : OwnB (w.alloc o) base e v l := ⟨h.1.alloc o, h.2⟩
theorem OwnB.below {base B : Nat} {v : Value} {l : List Nat} {w' : World} (h : OwnB w base e v l) (hb : Below B w w') (hv : ∀ g, v.ownBlock = some g → g < B) : OwnB w' base e v l := by
  refine ⟨⟨h.1.1, ?_⟩, h.2⟩
  rcases h.1.2 with h0 | ⟨g, cap, cur, rfl, hg, hh, r⟩
  · exact .inl h0
  · exact .inr ⟨g, cap, cur, rfl, hg, (hb.block g (hv g rfl)).trans hh, r⟩
/-- The string of some bytes. -/
def strB (l : List Nat) : ByteArray := strOfNums (l.map fun x => ((x : Nat) : Int))
theorem strB_inj {l m : List Nat} (hl : ∀ x ∈ l, x < 256) (hm : ∀ x ∈ m, x < 256) (h : strB l = strB m) : l = m := by
  have h1 := congrArg (fun s : ByteArray => s.data.toList.map fun b => b.toNat) h
  simp only [strB, strOfNums_data, List.map_map] at h1
  have key : ∀ k : List Nat, (∀ x ∈ k, x < 256) → k.map ((fun b : UInt8 => b.toNat) ∘ (fun n : Int => UInt8.ofNat n.toNat) ∘ fun x : Nat => ((x : Nat) : Int)) = k := by
    intro k hk
    have : k.map ((fun b : UInt8 => b.toNat) ∘ (fun n : Int => UInt8.ofNat n.toNat) ∘ fun x : Nat => ((x : Nat) : Int)) = k.map id := by
      apply List.map_congr_left
      intro x hx
      simp
      exact hk x hx
    rw [this, List.map_id]
  rw [key l hl, key m hm] at h1
  exact h1
theorem Bts.toStr (B : ByteT P t e) {ts : TypeId} (hts : P.underlying ts = some .string) {A : Option Addr} {n : Nat} {l : List Nat} (h : Bts w A n l) (c : Nat) :
    (convert t ts (.slice A n c)).run P w = .ok (.string (strB l)) w := by
  rcases Nat.eq_zero_or_pos n with h0 | h0
  · subst h0
    have hl : l = [] := List.eq_nil_of_length_eq_zero h.1
    subst hl
    rw [run_convert_bytes_string w t ts e _ _ c B.ht B.he hts]
    cases A with
    | none => simp [Conv.bytesToString]; rfl
    | some ad =>
      rw [run_bytesToString w ad 0 c [] (by simpa using run_loadCells_list (P := P) w ad [] (fun j v hj => by simp at hj))]
      rfl
  · obtain ⟨b, off, rfl, _, hc⟩ := h.2.2 h0
    refine run_convert_bytes_arg w t e B.ht B.he b off n c _ (by simp [h.1]) (fun i hi => ?_) ts hts
    rw [hc i hi]
    have hi' : i < l.length := by rw [h.1]; exact hi
    simp [List.getD_eq_getElem?_getD, List.getElem?_eq_getElem hi']
theorem Bts.drewN {A : Option Addr} {n : Nat} {l : List Nat} (h : Bts w A n l) (k : Nat) : Bts (w.drewN k) A n l := h
theorem Bts.drew {A : Option Addr} {n : Nat} {l : List Nat} (h : Bts w A n l) : Bts w.drew A n l := h
theorem Bts.head {A : Option Addr} {n k : Nat} {l : List Nat} (h : Bts w A n l) (hk : k ≤ n) : Bts w A k (l.take k) :=
  ⟨by rw [List.length_take, h.1]; omega, fun x hx => h.2.1 x (List.mem_of_mem_take hx), fun hp => by
    obtain ⟨b, off, e, hl, hc⟩ := h.2.2 (by omega)
    refine ⟨b, off, e, hl, fun i hi => ?_⟩
    rw [hc i (by omega), List.getD_eq_getElem?_getD, List.getD_eq_getElem?_getD, List.getElem?_take, if_pos hi]⟩
theorem Bts.below {A : Option Addr} {n : Nat} {l : List Nat} {w' : World} {B : Nat} (h : Bts w A n l) (hb : Below B w w') (hB : ∀ a, A = some a → a.block < B) : Bts w' A n l :=
  ⟨h.1, h.2.1, fun hn => by
    obtain ⟨b, off, e, hl, hc⟩ := h.2.2 hn
    exact ⟨b, off, e, Nat.lt_of_lt_of_le hl hb.size, fun i hi => (hb.cell (p := ⟨b, off + i, none⟩) (hB ⟨b, off, none⟩ e)).trans (hc i hi)⟩⟩
/-- What lay there when the call began reads as it did. -/
theorem Bts.kept {A : Option Addr} {n : Nat} {l : List Nat} {w' : World} (h : Bts w A n l) (hb : Below w.heap.size w w') : Bts w' A n l :=
  ⟨h.1, h.2.1, fun hn => by
    obtain ⟨b, off, e, hl, hc⟩ := h.2.2 hn
    exact ⟨b, off, e, Nat.lt_of_lt_of_le hl hb.size, fun i hi => (hb.cell (p := ⟨b, off + i, none⟩) hl).trans (hc i hi)⟩⟩
end
end Go.Proofs.YteefjmdallpihaaGreatDoor
