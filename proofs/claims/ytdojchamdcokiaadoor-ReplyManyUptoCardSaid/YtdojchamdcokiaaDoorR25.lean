/-
  docketlaw12: rows of responses, of the call's own and that came in.
-/
import Derived.Test.YtdojchamdcokiaaDoorR24
import Derived.Deep.Slices
import Derived.Deep.Grids
namespace Go.Proofs.YtdojchamdcokiaaDoor
open Go.ChangeShapes Go.WideShapes Go.ChangeAt Go.RowKit Go.Deep Reply

/-- A response with the place of its headers. -/
abbrev El := Rs × Option Addr × Nat
def elV (e : El) : List Value := [.int .i64 e.1.status, .slice e.2.1 e.1.headers.length e.2.2, .string (S e.1.body), .bool e.1.head, .bool e.1.close]
def rowR (l : List El) : List Value := l.flatMap elV
theorem rowR_cons (e : El) (l : List El) : rowR (e :: l) = elV e ++ rowR l := rfl
theorem rowR_length (l : List El) : (rowR l).length = l.length * 5 := by
  induction l with
  | nil => rfl
  | cons b r ih => rw [rowR_cons, List.length_append, ih]; simp [elV]; omega
theorem rowR_append (a b : List El) : rowR (a ++ b) = rowR a ++ rowR b := by unfold rowR; rw [List.flatMap_append]
theorem rowR_at (l : List El) (k j : Nat) (hj : j < 5) (e : El) (h : l[k]? = some e) : (rowR l)[k * 5 + j]? = (elV e)[j]? := by
  induction l generalizing k with
  | nil => simp at h
  | cons x r ih =>
    rw [rowR_cons]
    have hx : (elV x).length = 5 := rfl
    rcases k with _ | k
    · have : x = e := by simpa using h
      subst this
      rw [List.getElem?_append_left (by omega)]
      congr 1
      omega
    · have h2 : r[k]? = some e := by simpa using h
      rw [List.getElem?_append_right (by omega), ← ih k h2]
      congr 1
      omega
theorem rowR_set (l : List El) (i : Nat) (e e' : El) (h : l[i]? = some e) (he : elV e' = (elV e).set 2 (.string (S e'.1.body))) : (rowR l).set (i * 5 + 2) (.string (S e'.1.body)) = rowR (l.set i e') := by
  induction l generalizing i with
  | nil => simp at h
  | cons x r ih =>
    rcases i with _ | i
    · have : x = e := by simpa using h
      subst this
      rw [List.set_cons_zero, rowR_cons, rowR_cons, he]
      rfl
    · have h2 : r[i]? = some e := by simpa using h
      rw [List.set_cons_succ, rowR_cons, rowR_cons, ← ih i h2, List.set_append_right _ _ (by show 5 ≤ _; omega)]
      congr 2
      show (i + 1) * 5 + 2 - 5 = _
      omega
theorem infoR : (Tryd.prog.info? 24).map (fun i => (i.zero, i.size, i.bytes)) = some (some (.agg #[.int .i64 0, .slice none 0 0, .string ⟨#[]⟩, .bool false, .bool false]), 5, 56) := by kernel_rfl
/-- Cells that hold a list of responses. -/
def RsAt (w : World) (A : Option Addr) (l : List El) : Prop := 0 < l.length → ∃ g off, A = some ⟨g, off, none⟩ ∧ g < w.heap.size ∧ ∀ j u, (rowR l)[j]? = some u → w.cell? ⟨g, off + j, none⟩ = some u
def OwnR (w : World) (base : Nat) (v : Value) (l : List El) : Prop := w.ownsRow base 24 5 v l.length (rowR l)
section
variable {w w' : World} {base : Nat} {v : Value} {l : List El} {A : Option Addr}
theorem OwnR.nil (w : World) (base : Nat) : OwnR w base (.slice none 0 0) [] := ⟨rfl, .inl ⟨rfl, rfl⟩⟩
theorem OwnR.form (h : OwnR w base v l) : ∃ A c, v = .slice A l.length c := by
  rcases h.2 with ⟨rfl, h0⟩ | ⟨g, cap, cur, rfl, _⟩
  · exact ⟨none, 0, by rw [h0]⟩
  · exact ⟨_, cap, rfl⟩
theorem OwnR.at_ {c : Nat} (h : OwnR w base (.slice A l.length c) l) : RsAt w A l := by
  rcases h.2 with ⟨e, h0⟩ | ⟨g, cap, cur, e, hg, hh, hn, hcap, hsz, htake⟩
  · exact fun hp => by omega
  · injection e with e1 _ _
    subst e1
    refine fun _ => ⟨g, 0, rfl, (Array.getElem?_eq_some_iff.1 hh).1, fun j u hu => ?_⟩
    have hj := (List.getElem?_eq_some_iff.1 hu).1
    rw [rowR_length] at hj
    rw [← htake, List.getElem?_take, if_pos hj] at hu
    rw [Nat.zero_add, cell_of_row w g j cur _ _ hh, ← Array.getElem?_toList]
    exact hu
/-- The block of a row that isn't empty. -/
theorem OwnR.block {c : Nat} (h : OwnR w base (.slice A l.length c) l) (hp : 0 < l.length) : ∃ g, A = some ⟨g, 0, none⟩ ∧ base ≤ g ∧ g < w.heap.size ∧ ∀ i, w.frozen? ⟨g, i, none⟩ = false := by
  rcases h.2 with ⟨e, h0⟩ | ⟨g, cap, cur, e, hg, hh, _⟩
  · omega
  · injection e with e1 _ _
    subst e1
    exact ⟨g, rfl, hg, (Array.getElem?_eq_some_iff.1 hh).1, fun i => frozen_of_row w g i cur _ hh⟩
theorem OwnR.lt (h : OwnR w base v l) : ∀ g, v.ownBlock = some g → base ≤ g ∧ g < w.heap.size := World.ownsRow.lt h
theorem OwnR.alloc (h : OwnR w base v l) (o : Obj) : OwnR (w.alloc o) base v l := World.ownsRow.alloc h o
theorem OwnR.below (h : OwnR w base v l) (k : Below w.heap.size w w') : OwnR w' base v l := by
  refine ⟨h.1, ?_⟩
  rcases h.2 with h0 | ⟨g, cap, cur, rfl, hg, hh, r⟩
  · exact .inl h0
  · exact .inr ⟨g, cap, cur, rfl, hg, (k.block g (Array.getElem?_eq_some_iff.1 hh).1).trans hh, r⟩
theorem RsAt.below (h : RsAt w A l) (k : Below w.heap.size w w') : RsAt w' A l := fun hp => by
  obtain ⟨g, off, e, hl, hc⟩ := h hp
  exact ⟨g, off, e, Nat.lt_of_lt_of_le hl k.size, fun j u hu => (k.cell (p := ⟨g, off + j, none⟩) hl).trans (hc j u hu)⟩
theorem RsAt.at_ (h : RsAt w A l) {k : Nat} (hk : k < l.length) : ∃ g off, A = some ⟨g, off, none⟩ ∧ w.cell? ⟨g, off + k * 5, none⟩ = some (.int .i64 l[k].1.status) ∧ w.cell? ⟨g, off + k * 5 + 1, none⟩ = some (.slice l[k].2.1 l[k].1.headers.length l[k].2.2) ∧ w.cell? ⟨g, off + k * 5 + 2, none⟩ = some (.string (S l[k].1.body)) ∧ w.cell? ⟨g, off + k * 5 + 3, none⟩ = some (.bool l[k].1.head) ∧ w.cell? ⟨g, off + k * 5 + 4, none⟩ = some (.bool l[k].1.close) := by
  obtain ⟨g, off, e, _, hc⟩ := h (by omega)
  have f := fun j hj => rowR_at l k j hj l[k] (List.getElem?_eq_getElem hk)
  refine ⟨g, off, e, hc _ _ ((f 0 (by omega)).trans rfl), ?_, ?_, ?_, ?_⟩
  · rw [Nat.add_assoc]; exact hc _ _ ((f 1 (by omega)).trans rfl)
  · rw [Nat.add_assoc]; exact hc _ _ ((f 2 (by omega)).trans rfl)
  · rw [Nat.add_assoc]; exact hc _ _ ((f 3 (by omega)).trans rfl)
  · rw [Nat.add_assoc]; exact hc _ _ ((f 4 (by omega)).trans rfl)
theorem OwnR.set_ {g c : Nat} (h : OwnR w base (.slice (some ⟨g, 0, none⟩) l.length c) l) (i : Nat) (e e' : El) (hi : l[i]? = some e) (he : elV e' = (elV e).set 2 (.string (S e'.1.body))) :
    OwnR (w.setCell ⟨g, i * 5 + 2, none⟩ (.string (S e'.1.body))) base (.slice (some ⟨g, 0, none⟩) (l.set i e').length c) (l.set i e') := by
  rcases h.2 with ⟨x, _⟩ | ⟨g', cap, cur, x, hg, hh, hn, hcap, hsz, htake⟩
  · cases x
  · injection x with e1 e2 e3
    injection e1 with e1
    injection e1 with e1 _ _
    subst e1 e3
    refine ⟨?_, .inr ⟨g, c, _, ?_, hg, Held.set_ hh (i * 5 + 2) _, ?_, hcap, by rw [Array.size_setIfInBounds]; exact hsz, ?_⟩⟩
    · rw [rowR_length]
    · rw [List.length_set]
    · rw [List.length_set]; exact hn
    · rw [Array.toList_setIfInBounds, List.length_set, List.take_set, htake, rowR_set l i e e' hi he]
/-- append(v, x...). -/
theorem run_append_r (base : Nat) (ty : TypeId) (v : Value) (k : List El) (hown : OwnR w base v k) (ad : Addr) (m c : Nat) (l : List El) (hl : l.length = m) (hA : RsAt w (some ad) l) (hr : k.length + m ≤ 100000) (hbase : base ≤ w.heap.size) :
    ∃ v' w', (Builtin.append_ #[34, 34] ty #[v, .slice (some ad) m c]).run Tryd.prog w = .ok v' w' ∧ OwnR w' base v' (k ++ l) ∧ w.grownBy w' v.ownBlock := by
  obtain ⟨i, hi, hz, hsize, hby⟩ := info_parts infoR
  obtain ⟨v', w', hrun, h2, h3, _, h5⟩ := run_append_own_at (P := Tryd.prog) w base 34 ty 24 i (.agg #[.int .i64 0, .slice none 0 0, .string ⟨#[]⟩, .bool false, .bool false]) 5 56 Tryd.underlying34 hi hz hsize hby rfl (by omega) v k.length (rowR k) hown ad m c (rowR l) (by rw [rowR_length, hl])
    (fun j u hu => by
      have hj := (List.getElem?_eq_some_iff.1 hu).1
      rw [rowR_length] at hj
      obtain ⟨g, off, e, _, hc⟩ := hA (by omega)
      cases e
      rw [WideShapes.add_plain]
      exact hc j u hu)
    (fun u hu => by
      obtain ⟨b, _, hb⟩ := List.mem_flatMap.1 hu
      unfold elV at hb
      simp only [List.mem_cons, List.mem_nil_iff, or_false] at hb
      rcases hb with rfl | rfl | rfl | rfl | rfl <;> rfl) (by simp only [maxLen]; omega) (by omega) hbase
  exact ⟨v', w', hrun, by unfold OwnR; rw [List.length_append, rowR_append, hl]; exact h2, h3⟩
end
set_option maxRecDepth 100000 in
theorem wpList_append_r {w : World} {ops : Array Oper} {rest : List Oper} {o : Oper} {a : Act} {Q : Exit → Act → World → Prop} (hgd : o.guard = none) (s x : Operand)
    (ho : o.op = .call { callee := .builtin .append, args := #[s, x], argTypes := #[34, 34] })
    (base : Nat) (v : Value) (k : List El) (hs : a.eval s = v) (hown : OwnR w base v k)
    (ad : Addr) (m c : Nat) (l : List El) (hx : a.eval x = .slice (some ad) m c) (hl : l.length = m) (hA : RsAt w (some ad) l) (hr : k.length + m ≤ 100000) (hbase : base ≤ w.heap.size)
    (h : ∀ v' w', OwnR w' base v' (k ++ l) → w.grownBy w' v.ownBlock → wpList Tryd.prog ops Q rest (a.put o.dst v') w') : wpList Tryd.prog ops Q (o :: rest) a w := by
  obtain ⟨v', w', hrun, h2, h3⟩ := run_append_r base o.type v k hown ad m c l hl hA hr hbase
  refine wpList_plain hgd fun _ hK => ?_
  unfold Oper.wp execOp
  simp only [ho, resolve, invoke, builtin, Sem.run_bind, Sem.run_pure, Result.andThen_ok, List.map_toArray, List.map_cons, List.map_nil, hs, hx, hrun]
  exact hK _ _ (h v' w' h2 h3)
theorem OwnR.grown {base : Nat} {v : Value} {l : List El} {a w w' : World} (ho : OwnR w base v l) (hb : Below base a w) (hg : w.grownBy w' v.ownBlock) (hs : base ≤ w.heap.size) : Below base a w' :=
  hb.trans ⟨hg.os, hg.tape, hg.output, hg.size, fun k hk => hg.block k (by omega) (fun e => by
    have := (ho.lt k e.symm).1
    omega)⟩
theorem resp_one (w : World) (e : El) {st : Int} {A : Option Addr} {n c : Nat} {bs : ByteArray} {hd cl : Bool} (h0 : st = e.1.status) (h1 : A = e.2.1) (h2 : n = e.1.headers.length) (h3 : c = e.2.2) (h4 : bs = S e.1.body) (h5 : hd = e.1.head) (h6 : cl = e.1.close) :
    RsAt (w.alloc (.cells #[.int .i64 st, .slice A n c, .string bs, .bool hd, .bool cl] 24)) (some ⟨w.heap.size, 0, none⟩) [e] := by
  subst h0 h1 h2 h3 h4 h5 h6
  refine fun _ => ⟨_, 0, rfl, by simp, fun j u hu => ?_⟩
  have e1 : rowR [e] = elV e := by unfold rowR; simp
  rw [e1] at hu
  rw [Nat.zero_add, World.cell?_alloc_mark]
  simpa [elV] using hu
/-! ### a list that came in -/
/-- Each with its headers at their place, none too long. -/
def Elts (w : World) (l : List El) : Prop := ∀ e ∈ l, RFit e.1 ∧ HAt w e.2.1 e.1.headers
theorem Elts.below {w w' : World} {l : List El} (h : Elts w l) (k : Below w.heap.size w w') : Elts w' l := fun e he => ⟨(h e he).1, (h e he).2.below k⟩
/-- How long the texts are together, at most. -/
def weighR (l : List El) : Nat := l.foldr (fun e n => (hdrLines e.1.headers).length + e.1.body.length + n) 0
section
variable {H : Type} {enc : TypeId × Value → H} {W : World}
theorem bulk_list (D : Nat → DataW H) (f : Nat → El) : ∀ (l : List Nat), (∀ i ∈ l, (hdrLines (f i).1.headers).length + (f i).1.body.length ≤ 2 * Rows.uptoBulk (D i)) →
    weighR (l.map f) ≤ 2 * Rows.uptoBulkAll (H := H) (l.map D) ∧ ∀ i ∈ l, Rows.uptoBulk (D i) ≤ Rows.uptoBulkAll (H := H) (l.map D)
  | [], _ => ⟨Nat.zero_le _, by simp⟩
  | i :: r, hd => by
    obtain ⟨h1, h2⟩ := bulk_list D f r (fun j hj => hd j (List.mem_cons_of_mem _ hj))
    have h0 := hd i (by simp)
    simp only [List.map_cons, Rows.uptoBulkAll, weighR, List.foldr_cons]
    unfold weighR at h1
    refine ⟨by omega, fun j hj => ?_⟩
    rcases List.mem_cons.1 hj with rfl | hj
    · omega
    · have := h2 j hj
      omega
theorem bulk_each (D : Nat → DataW H) : ∀ (l : List Nat), ∀ i ∈ l, Rows.uptoBulk (D i) ≤ Rows.uptoBulkAll (H := H) (l.map D)
  | [], i, hi => by simp at hi
  | j :: r, i, hi => by
    simp only [List.map_cons, Rows.uptoBulkAll]
    rcases List.mem_cons.1 hi with rfl | hi
    · omega
    · have := bulk_each D r i hi
      omega
set_option maxRecDepth 100000 in
/-- An argument that is a list of responses. -/
theorem open_resps {r : Reach} {b0 : Nat} {v : Value} {d : DataW H} {p : List MemPlace} (hv : Value.okWide Tryd.prog W r b0 34 v) (h : DataW.Trod enc Tryd.prog W 0 (fun _ => true) true 34 v d p) (hk : Rows.uptoBulk d ≤ 1048576) :
    ∃ A c l, v = .slice A l.length c ∧ RsAt W A l ∧ Elts W l ∧ weighR l ≤ 2097152 ∧ l.length ≤ 9223372036854775807 := by
  obtain ⟨A, n, c, rfl⟩ := okWide_slice Tryd.underlying34 hv
  obtain ⟨fuel, hf⟩ := h
  rcases open_slice Tryd.underlying34 hf with ⟨hcs, hx⟩ | ⟨a, len, cap, m, n', D, Pl, hcs, _, hl, hm, hmm, hx, hc⟩
  · simp [Value.cells] at hcs
    obtain ⟨rfl, rfl, rfl⟩ := hcs
    exact ⟨none, 0, [], rfl, fun h => by simp at h, fun e he => by simp at he, by simp [weighR], by simp⟩
  · simp [Value.cells] at hcs
    obtain ⟨rfl, rfl, rfl⟩ := hcs
    simp only [if_true] at hmm
    subst hmm
    have hbk : Rows.uptoBulkAll (H := H) ((List.range n).map D) ≤ 1048576 := by
      simp only [Prod.mk.injEq] at hx
      rw [hx.1] at hk
      simp only [Rows.uptoBulk] at hk
      omega
    have key : ∀ i, i < n → ∃ e : El, (∀ j, j < 5 → W.cell? (a.add (i * 5 + j)) = (elV e)[j]?) ∧ RFit e.1 ∧ HAt W e.2.1 e.1.headers ∧ (hdrLines e.1.headers).length + e.1.body.length ≤ 2 * Rows.uptoBulk (D i) := fun i hi => by
      obtain ⟨cs', hcells, ht⟩ := hc i (by omega)
      rw [cellsR] at hcells
      obtain ⟨_, hlen, hat⟩ := World.cells?_some hcells
      have hb := bulk_each D (List.range n) i (List.mem_range.2 hi)
      obtain ⟨r, A', c', e, hF, hA, hw⟩ := resp_of ht (by simp only; omega)
      subst e
      refine ⟨(r, A', c'), fun j hj => ?_, hF, hA, hw⟩
      have b := hat j hj
      rw [Go.Deep.add_add] at b
      exact b
    have inh : Inhabited El := ⟨(⟨0, [], [], false, false⟩, none, 0)⟩
    obtain ⟨f, hf'⟩ := choose_lt (α := El) (p := fun i e => (∀ j, j < 5 → W.cell? (a.add (i * 5 + j)) = (elV e)[j]?) ∧ RFit e.1 ∧ HAt W e.2.1 e.1.headers ∧ (hdrLines e.1.headers).length + e.1.body.length ≤ 2 * Rows.uptoBulk (D i)) key
    have hbl := (bulk_list D f (List.range n) (fun i hi => (hf' i (List.mem_range.1 hi)).2.2.2)).1
    refine ⟨some a, m, (List.range n).map f, by simp, fun hp => ?_, fun e he => ?_, by omega, by simp; unfold maxLen at hm; omega⟩
    · have hm0 : 0 < n := by simpa using hp
      obtain ⟨b, off, spot⟩ := a
      have h00 : W.cell? ((⟨b, off, spot⟩ : Addr).add 0) = some (.int .i64 (f 0).1.status) := (hf' 0 hm0).1 0 (by omega)
      have hspot : spot = none := by
        have := World.cell?_spot h00
        simpa [Addr.add] using this
      subst hspot
      refine ⟨b, off, rfl, by simpa [Addr.add] using block_lt h00, fun j u hu => ?_⟩
      have hj := (List.getElem?_eq_some_iff.1 hu).1
      rw [rowR_length] at hj
      have hj5 : j / 5 < n := by simp at hj; omega
      have e1 := rowR_at ((List.range n).map f) (j / 5) (j % 5) (Nat.mod_lt _ (by omega)) (f (j / 5)) (by simp [hj5])
      have e2 := (hf' (j / 5) hj5).1 (j % 5) (Nat.mod_lt _ (by omega))
      rw [show j / 5 * 5 + j % 5 = j by omega] at e1 e2
      rw [WideShapes.add_plain] at e2
      rw [e2, ← e1, hu]
    · obtain ⟨i, hi, rfl⟩ := List.mem_map.1 he
      have := hf' i (List.mem_range.1 hi)
      exact ⟨this.2.1, this.2.2.1⟩
end
end Go.Proofs.YtdojchamdcokiaaDoor
