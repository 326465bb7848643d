/-
  xml: rows of pairs of texts in memory: the namespaces that are declared, the attributes.
-/
import Derived.Test.YteefjmdallpihaaGreatDoorR0
import Derived.Test.YteefjmdallpihaaGreatDoorReg
import Derived.Test.YteefjmdallpihaaGreatDoorXmA
import Derived.ArgAppend
namespace Go.Proofs.YteefjmdallpihaaGreatDoor
open Go.RowKit Reply

def rowP (l : List (B × B)) : List Value := l.flatMap fun h => [.string (S h.1), .string (S h.2)]
theorem rowP_length (l : List (B × B)) : (rowP l).length = l.length * 2 := by
  induction l with
  | nil => rfl
  | cons b r ih => unfold rowP at ih ⊢; rw [List.flatMap_cons, List.length_append, ih]; simp; omega
theorem rowP_append (a b : List (B × B)) : rowP (a ++ b) = rowP a ++ rowP b := by unfold rowP; rw [List.flatMap_append]
theorem rowP_at (l : List (B × B)) (k : Nat) (b : B × B) (h : l[k]? = some b) : (rowP l)[k * 2]? = some (.string (S b.1)) ∧ (rowP l)[k * 2 + 1]? = some (.string (S b.2)) := by
  induction l generalizing k with
  | nil => simp at h
  | cons x r ih =>
    have e : rowP (x :: r) = .string (S x.1) :: .string (S x.2) :: rowP r := rfl
    rw [e]
    rcases k with _ | k
    · have : x = b := by simpa using h
      subst this
      exact ⟨rfl, rfl⟩
    · have h2 : r[k]? = some b := by simpa using h
      have := ih k h2
      rw [show (k + 1) * 2 = k * 2 + 1 + 1 by omega]
      exact ⟨this.1, this.2⟩
theorem infoHS : (Tryz.prog.info? 53).map (fun i => (i.zero, i.size, i.bytes)) = some (some (.agg #[.string ⟨#[]⟩, .string ⟨#[]⟩]), 2, 32) := by kernel_rfl
/-- Cells that hold a list of headers. -/
def HAtS (w : World) (A : Option Addr) (l : List (B × B)) : Prop := 0 < l.length → ∃ g off, A = some ⟨g, off, none⟩ ∧ g < w.heap.size ∧ ∀ j u, (rowP l)[j]? = some u → w.cell? ⟨g, off + j, none⟩ = some u
def OwnHS (w : World) (base : Nat) (v : Value) (l : List (B × B)) : Prop := w.ownsRow base 53 2 v l.length (rowP l)
section
variable {w w' : World} {base : Nat} {v : Value} {l : List (B × B)} {A : Option Addr}
theorem OwnHS.nil (w : World) (base : Nat) : OwnHS w base (.slice none 0 0) [] := ⟨rfl, .inl ⟨rfl, rfl⟩⟩
theorem OwnHS.any (h : OwnHS w base v l) : ∃ A c, v = .slice A l.length c ∧ l.length ≤ c ∧ HAtS w A l := by
  rcases h.2 with ⟨rfl, h0⟩ | ⟨g, cap, cur, rfl, hg, hh, hn, hcap, hsz, htake⟩
  · exact ⟨none, 0, by rw [h0], by omega, fun hp => by omega⟩
  · refine ⟨_, cap, rfl, hn, fun _ => ⟨g, 0, rfl, (Array.getElem?_eq_some_iff.1 hh).1, fun j u hu => ?_⟩⟩
    have hj := (List.getElem?_eq_some_iff.1 hu).1
    rw [rowP_length] at hj
    rw [← htake, List.getElem?_take, if_pos hj] at hu
    rw [Nat.zero_add, cell_of_row w g j cur _ _ hh, ← Array.getElem?_toList]
    exact hu
theorem OwnHS.lt (h : OwnHS w base v l) : ∀ g, v.ownBlock = some g → base ≤ g ∧ g < w.heap.size := World.ownsRow.lt h
theorem OwnHS.alloc (h : OwnHS w base v l) (o : Obj) : OwnHS (w.alloc o) base v l := World.ownsRow.alloc h o
theorem OwnHS.below (h : OwnHS w base v l) (k : Below w.heap.size w w') : OwnHS w' base v l := by
  refine ⟨h.1, ?_⟩
  rcases h.2 with h0 | ⟨g, cap, cur, rfl, hg, hh, r⟩
  · exact .inl h0
  · exact .inr ⟨g, cap, cur, rfl, hg, (k.block g (Array.getElem?_eq_some_iff.1 hh).1).trans hh, r⟩
theorem HAtS.below (h : HAtS w A l) (k : Below w.heap.size w w') : HAtS w' A l := fun hp => by
  obtain ⟨g, off, e, hl, hc⟩ := h hp
  exact ⟨g, off, e, Nat.lt_of_lt_of_le hl k.size, fun j u hu => (k.cell (p := ⟨g, off + j, none⟩) hl).trans (hc j u hu)⟩
theorem HAtS.at_ (h : HAtS w A l) {k : Nat} (hk : k < l.length) : ∃ g off, A = some ⟨g, off, none⟩ ∧ w.cell? ⟨g, off + k * 2, none⟩ = some (.string (S l[k].1)) ∧ w.cell? ⟨g, off + k * 2 + 1, none⟩ = some (.string (S l[k].2)) := by
  obtain ⟨g, off, e, _, hc⟩ := h (by omega)
  obtain ⟨a, b⟩ := rowP_at l k l[k] (List.getElem?_eq_getElem hk)
  exact ⟨g, off, e, hc _ _ a, by rw [Nat.add_assoc]; exact hc _ _ b⟩
theorem HAtS.nil (w : World) (A : Option Addr) : HAtS w A [] := fun h => by simp at h
/-- append(v, x...). -/
theorem run_append_hS (base : Nat) (ty : TypeId) (v : Value) (k : List (B × B)) (hown : OwnHS w base v k) (ad : Addr) (m c : Nat) (l : List (B × B)) (hl : l.length = m) (hA : HAtS w (some ad) l) (hr : k.length + m ≤ 100000) (hbase : base ≤ w.heap.size) :
    ∃ v' w', (Builtin.append_ #[54, 54] ty #[v, .slice (some ad) m c]).run Tryz.prog w = .ok v' w' ∧ OwnHS w' base v' (k ++ l) ∧ w.grownBy w' v.ownBlock := by
  obtain ⟨i, hi, hz, hsize, hby⟩ := info_parts infoHS
  obtain ⟨v', w', hrun, h2, h3, _, h5⟩ := run_append_own_at (P := Tryz.prog) w base 54 ty 53 i (.agg #[.string ⟨#[]⟩, .string ⟨#[]⟩]) 2 32 Tryz.underlying54 hi hz hsize hby rfl (by omega) v k.length (rowP k) hown ad m c (rowP l) (by rw [rowP_length, hl])
    (fun j u hu => by
      have hj := (List.getElem?_eq_some_iff.1 hu).1
      rw [rowP_length] at hj
      obtain ⟨g, off, e, _, hc⟩ := hA (by omega)
      cases e
      rw [WideShapes.add_plain]
      exact hc j u hu)
    (fun u hu => by
      obtain ⟨b, _, hb⟩ := List.mem_flatMap.1 hu
      rcases List.mem_cons.1 hb with rfl | hb
      · rfl
      · have : u = .string (S b.2) := by simpa using hb
        rw [this]; rfl) (by simp only [maxLen]; omega) (by omega) hbase
  exact ⟨v', w', hrun, by unfold OwnHS; rw [List.length_append, rowP_append, hl]; exact h2, h3⟩
end
set_option maxRecDepth 100000 in
theorem wpList_append_hS {w : World} {ops : Array Oper} {rest : List Oper} {o : Oper} {a : Act} {Q : Exit → Act → World → Prop} (hgd : o.guard = none) (s x : Operand)
    (ho : o.op = .call { callee := .builtin .append, args := #[s, x], argTypes := #[54, 54] })
    (base : Nat) (v : Value) (k : List (B × B)) (hs : a.eval s = v) (hown : OwnHS w base v k)
    (ad : Addr) (m c : Nat) (l : List (B × B)) (hx : a.eval x = .slice (some ad) m c) (hl : l.length = m) (hA : HAtS w (some ad) l) (hr : k.length + m ≤ 100000) (hbase : base ≤ w.heap.size)
    (h : ∀ v' w', OwnHS w' base v' (k ++ l) → w.grownBy w' v.ownBlock → wpList Tryz.prog ops Q rest (a.put o.dst v') w') : wpList Tryz.prog ops Q (o :: rest) a w := by
  obtain ⟨v', w', hrun, h2, h3⟩ := run_append_hS base o.type v k hown ad m c l hl hA hr hbase
  refine wpList_plain hgd fun _ hK => ?_
  unfold Oper.wp execOp
  simp only [ho, resolve, invoke, builtin, Sem.run_bind, Sem.run_pure, Result.andThen_ok, List.map_toArray, List.map_cons, List.map_nil, hs, hx, hrun]
  exact hK _ _ (h v' w' h2 h3)
theorem OwnHS.grown {base : Nat} {v : Value} {l : List (B × B)} {a w w' : World} (ho : OwnHS w base v l) (hb : Below base a w) (hg : w.grownBy w' v.ownBlock) (hs : base ≤ w.heap.size) : Below base a w' :=
  hb.trans ⟨hg.os, hg.tape, hg.output, hg.size, fun k hk => hg.block k (by omega) (fun e => by
    have := (ho.lt k e.symm).1
    omega)⟩
theorem head_oneS (w : World) (n v : ByteArray) (e : TypeId) (m : Nat × Nat) (b : Nat) (hb : b = w.heap.size) : HAtS (w.alloc (.cells #[.string n, .string v] e m)) (some ⟨b, 0, none⟩) [(n.data.toList, v.data.toList)] := by
  subst hb
  refine fun _ => ⟨_, 0, rfl, by simp, fun j u hu => ?_⟩
  have e1 : rowP [(n.data.toList, v.data.toList)] = [.string n, .string v] := rfl
  rw [e1] at hu
  rw [Nat.zero_add, World.cell?_alloc_mark]
  simpa using hu
theorem infoHA : (Tryz.prog.info? 36).map (fun i => (i.zero, i.size, i.bytes)) = some (some (.agg #[.string ⟨#[]⟩, .string ⟨#[]⟩]), 2, 32) := by kernel_rfl
/-- Cells that hold a list of headers. -/
def HAtA (w : World) (A : Option Addr) (l : List (B × B)) : Prop := 0 < l.length → ∃ g off, A = some ⟨g, off, none⟩ ∧ g < w.heap.size ∧ ∀ j u, (rowP l)[j]? = some u → w.cell? ⟨g, off + j, none⟩ = some u
def OwnHA (w : World) (base : Nat) (v : Value) (l : List (B × B)) : Prop := w.ownsRow base 36 2 v l.length (rowP l)
section
variable {w w' : World} {base : Nat} {v : Value} {l : List (B × B)} {A : Option Addr}
theorem OwnHA.nil (w : World) (base : Nat) : OwnHA w base (.slice none 0 0) [] := ⟨rfl, .inl ⟨rfl, rfl⟩⟩
theorem OwnHA.any (h : OwnHA w base v l) : ∃ A c, v = .slice A l.length c ∧ l.length ≤ c ∧ HAtA w A l := by
  rcases h.2 with ⟨rfl, h0⟩ | ⟨g, cap, cur, rfl, hg, hh, hn, hcap, hsz, htake⟩
  · exact ⟨none, 0, by rw [h0], by omega, fun hp => by omega⟩
  · refine ⟨_, cap, rfl, hn, fun _ => ⟨g, 0, rfl, (Array.getElem?_eq_some_iff.1 hh).1, fun j u hu => ?_⟩⟩
    have hj := (List.getElem?_eq_some_iff.1 hu).1
    rw [rowP_length] at hj
    rw [← htake, List.getElem?_take, if_pos hj] at hu
    rw [Nat.zero_add, cell_of_row w g j cur _ _ hh, ← Array.getElem?_toList]
    exact hu
theorem OwnHA.lt (h : OwnHA w base v l) : ∀ g, v.ownBlock = some g → base ≤ g ∧ g < w.heap.size := World.ownsRow.lt h
theorem OwnHA.alloc (h : OwnHA w base v l) (o : Obj) : OwnHA (w.alloc o) base v l := World.ownsRow.alloc h o
theorem OwnHA.below (h : OwnHA w base v l) (k : Below w.heap.size w w') : OwnHA w' base v l := by
  refine ⟨h.1, ?_⟩
  rcases h.2 with h0 | ⟨g, cap, cur, rfl, hg, hh, r⟩
  · exact .inl h0
  · exact .inr ⟨g, cap, cur, rfl, hg, (k.block g (Array.getElem?_eq_some_iff.1 hh).1).trans hh, r⟩
theorem HAtA.below (h : HAtA w A l) (k : Below w.heap.size w w') : HAtA w' A l := fun hp => by
  obtain ⟨g, off, e, hl, hc⟩ := h hp
  exact ⟨g, off, e, Nat.lt_of_lt_of_le hl k.size, fun j u hu => (k.cell (p := ⟨g, off + j, none⟩) hl).trans (hc j u hu)⟩
theorem HAtA.at_ (h : HAtA w A l) {k : Nat} (hk : k < l.length) : ∃ g off, A = some ⟨g, off, none⟩ ∧ w.cell? ⟨g, off + k * 2, none⟩ = some (.string (S l[k].1)) ∧ w.cell? ⟨g, off + k * 2 + 1, none⟩ = some (.string (S l[k].2)) := by
  obtain ⟨g, off, e, _, hc⟩ := h (by omega)
  obtain ⟨a, b⟩ := rowP_at l k l[k] (List.getElem?_eq_getElem hk)
  exact ⟨g, off, e, hc _ _ a, by rw [Nat.add_assoc]; exact hc _ _ b⟩
theorem HAtA.nil (w : World) (A : Option Addr) : HAtA w A [] := fun h => by simp at h
/-- append(v, x...). -/
theorem run_append_hA (base : Nat) (ty : TypeId) (v : Value) (k : List (B × B)) (hown : OwnHA w base v k) (ad : Addr) (m c : Nat) (l : List (B × B)) (hl : l.length = m) (hA : HAtA w (some ad) l) (hr : k.length + m ≤ 100000) (hbase : base ≤ w.heap.size) :
    ∃ v' w', (Builtin.append_ #[25, 25] ty #[v, .slice (some ad) m c]).run Tryz.prog w = .ok v' w' ∧ OwnHA w' base v' (k ++ l) ∧ w.grownBy w' v.ownBlock := by
  obtain ⟨i, hi, hz, hsize, hby⟩ := info_parts infoHA
  obtain ⟨v', w', hrun, h2, h3, _, h5⟩ := run_append_own_at (P := Tryz.prog) w base 25 ty 36 i (.agg #[.string ⟨#[]⟩, .string ⟨#[]⟩]) 2 32 Tryz.underlying25 hi hz hsize hby rfl (by omega) v k.length (rowP k) hown ad m c (rowP l) (by rw [rowP_length, hl])
    (fun j u hu => by
      have hj := (List.getElem?_eq_some_iff.1 hu).1
      rw [rowP_length] at hj
      obtain ⟨g, off, e, _, hc⟩ := hA (by omega)
      cases e
      rw [WideShapes.add_plain]
      exact hc j u hu)
    (fun u hu => by
      obtain ⟨b, _, hb⟩ := List.mem_flatMap.1 hu
      rcases List.mem_cons.1 hb with rfl | hb
      · rfl
      · have : u = .string (S b.2) := by simpa using hb
        rw [this]; rfl) (by simp only [maxLen]; omega) (by omega) hbase
  exact ⟨v', w', hrun, by unfold OwnHA; rw [List.length_append, rowP_append, hl]; exact h2, h3⟩
end
set_option maxRecDepth 100000 in
theorem wpList_append_hA {w : World} {ops : Array Oper} {rest : List Oper} {o : Oper} {a : Act} {Q : Exit → Act → World → Prop} (hgd : o.guard = none) (s x : Operand)
    (ho : o.op = .call { callee := .builtin .append, args := #[s, x], argTypes := #[25, 25] })
    (base : Nat) (v : Value) (k : List (B × B)) (hs : a.eval s = v) (hown : OwnHA w base v k)
    (ad : Addr) (m c : Nat) (l : List (B × B)) (hx : a.eval x = .slice (some ad) m c) (hl : l.length = m) (hA : HAtA w (some ad) l) (hr : k.length + m ≤ 100000) (hbase : base ≤ w.heap.size)
    (h : ∀ v' w', OwnHA w' base v' (k ++ l) → w.grownBy w' v.ownBlock → wpList Tryz.prog ops Q rest (a.put o.dst v') w') : wpList Tryz.prog ops Q (o :: rest) a w := by
  obtain ⟨v', w', hrun, h2, h3⟩ := run_append_hA base o.type v k hown ad m c l hl hA hr hbase
  refine wpList_plain hgd fun _ hK => ?_
  unfold Oper.wp execOp
  simp only [ho, resolve, invoke, builtin, Sem.run_bind, Sem.run_pure, Result.andThen_ok, List.map_toArray, List.map_cons, List.map_nil, hs, hx, hrun]
  exact hK _ _ (h v' w' h2 h3)
theorem OwnHA.grown {base : Nat} {v : Value} {l : List (B × B)} {a w w' : World} (ho : OwnHA w base v l) (hb : Below base a w) (hg : w.grownBy w' v.ownBlock) (hs : base ≤ w.heap.size) : Below base a w' :=
  hb.trans ⟨hg.os, hg.tape, hg.output, hg.size, fun k hk => hg.block k (by omega) (fun e => by
    have := (ho.lt k e.symm).1
    omega)⟩
theorem head_oneA (w : World) (n v : ByteArray) (e : TypeId) (m : Nat × Nat) (b : Nat) (hb : b = w.heap.size) : HAtA (w.alloc (.cells #[.string n, .string v] e m)) (some ⟨b, 0, none⟩) [(n.data.toList, v.data.toList)] := by
  subst hb
  refine fun _ => ⟨_, 0, rfl, by simp, fun j u hu => ?_⟩
  have e1 : rowP [(n.data.toList, v.data.toList)] = [.string n, .string v] := rfl
  rw [e1] at hu
  rw [Nat.zero_add, World.cell?_alloc_mark]
  simpa using hu
end Go.Proofs.YteefjmdallpihaaGreatDoor
