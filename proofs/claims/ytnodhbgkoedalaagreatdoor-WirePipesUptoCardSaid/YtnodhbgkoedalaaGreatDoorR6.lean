/-
  reply: headers in memory, and responses as values.
-/
import Derived.Test.YtnodhbgkoedalaaGreatDoorR5
import Derived.ArgAppend
namespace Go.Proofs.YtnodhbgkoedalaaGreatDoor
open Go.RowKit Reply

def rowH (l : List (B × B)) : List Value := l.flatMap fun h => [.string (S h.1), .string (S h.2)]
theorem rowH_length (l : List (B × B)) : (rowH l).length = l.length * 2 := by
  induction l with
  | nil => rfl
  | cons b r ih => unfold rowH at ih ⊢; rw [List.flatMap_cons, List.length_append, ih]; simp; omega
theorem rowH_append (a b : List (B × B)) : rowH (a ++ b) = rowH a ++ rowH b := by unfold rowH; rw [List.flatMap_append]
theorem rowH_at (l : List (B × B)) (k : Nat) (b : B × B) (h : l[k]? = some b) : (rowH l)[k * 2]? = some (.string (S b.1)) ∧ (rowH l)[k * 2 + 1]? = some (.string (S b.2)) := by
  induction l generalizing k with
  | nil => simp at h
  | cons x r ih =>
    have e : rowH (x :: r) = .string (S x.1) :: .string (S x.2) :: rowH r := rfl
    rw [e]
    rcases k with _ | k
    · have : x = b := by simpa using h
      subst this
      exact ⟨rfl, rfl⟩
    · have h2 : r[k]? = some b := by simpa using h
      have := ih k h2
      rw [show (k + 1) * 2 = k * 2 + 1 + 1 by omega]
      exact ⟨this.1, this.2⟩
theorem infoH : (Tryz.prog.info? 38).map (fun i => (i.zero, i.size, i.bytes)) = some (some (.agg #[.string ⟨#[]⟩, .string ⟨#[]⟩]), 2, 32) := by kernel_rfl
/-- Cells that hold a list of headers. -/
def HAt (w : World) (A : Option Addr) (l : List (B × B)) : Prop := 0 < l.length → ∃ g off, A = some ⟨g, off, none⟩ ∧ g < w.heap.size ∧ ∀ j u, (rowH l)[j]? = some u → w.cell? ⟨g, off + j, none⟩ = some u
def OwnH (w : World) (base : Nat) (v : Value) (l : List (B × B)) : Prop := w.ownsRow base 38 2 v l.length (rowH l)
section
variable {w w' : World} {base : Nat} {v : Value} {l : List (B × B)} {A : Option Addr}
theorem OwnH.nil (w : World) (base : Nat) : OwnH w base (.slice none 0 0) [] := ⟨rfl, .inl ⟨rfl, rfl⟩⟩
theorem OwnH.any (h : OwnH w base v l) : ∃ A c, v = .slice A l.length c ∧ l.length ≤ c ∧ HAt w A l := by
  rcases h.2 with ⟨rfl, h0⟩ | ⟨g, cap, cur, rfl, hg, hh, hn, hcap, hsz, htake⟩
  · exact ⟨none, 0, by rw [h0], by omega, fun hp => by omega⟩
  · refine ⟨_, cap, rfl, hn, fun _ => ⟨g, 0, rfl, (Array.getElem?_eq_some_iff.1 hh).1, fun j u hu => ?_⟩⟩
    have hj := (List.getElem?_eq_some_iff.1 hu).1
    rw [rowH_length] at hj
    rw [← htake, List.getElem?_take, if_pos hj] at hu
    rw [Nat.zero_add, cell_of_row w g j cur _ _ hh, ← Array.getElem?_toList]
    exact hu
theorem OwnH.lt (h : OwnH w base v l) : ∀ g, v.ownBlock = some g → base ≤ g ∧ g < w.heap.size := World.ownsRow.lt h
theorem OwnH.alloc (h : OwnH w base v l) (o : Obj) : OwnH (w.alloc o) base v l := World.ownsRow.alloc h o
theorem OwnH.below (h : OwnH w base v l) (k : Below w.heap.size w w') : OwnH w' base v l := by
  refine ⟨h.1, ?_⟩
  rcases h.2 with h0 | ⟨g, cap, cur, rfl, hg, hh, r⟩
  · exact .inl h0
  · exact .inr ⟨g, cap, cur, rfl, hg, (k.block g (Array.getElem?_eq_some_iff.1 hh).1).trans hh, r⟩
theorem HAt.below (h : HAt w A l) (k : Below w.heap.size w w') : HAt w' A l := fun hp => by
  obtain ⟨g, off, e, hl, hc⟩ := h hp
  exact ⟨g, off, e, Nat.lt_of_lt_of_le hl k.size, fun j u hu => (k.cell (p := ⟨g, off + j, none⟩) hl).trans (hc j u hu)⟩
theorem HAt.at_ (h : HAt w A l) {k : Nat} (hk : k < l.length) : ∃ g off, A = some ⟨g, off, none⟩ ∧ w.cell? ⟨g, off + k * 2, none⟩ = some (.string (S l[k].1)) ∧ w.cell? ⟨g, off + k * 2 + 1, none⟩ = some (.string (S l[k].2)) := by
  obtain ⟨g, off, e, _, hc⟩ := h (by omega)
  obtain ⟨a, b⟩ := rowH_at l k l[k] (List.getElem?_eq_getElem hk)
  exact ⟨g, off, e, hc _ _ a, by rw [Nat.add_assoc]; exact hc _ _ b⟩
theorem HAt.nil (w : World) (A : Option Addr) : HAt w A [] := fun h => by simp at h
/-- append(v, x...). -/
theorem run_append_h (base : Nat) (ty : TypeId) (v : Value) (k : List (B × B)) (hown : OwnH w base v k) (ad : Addr) (m c : Nat) (l : List (B × B)) (hl : l.length = m) (hA : HAt w (some ad) l) (hr : k.length + m ≤ 100000) (hbase : base ≤ w.heap.size) :
    ∃ v' w', (Builtin.append_ #[24, 24] ty #[v, .slice (some ad) m c]).run Tryz.prog w = .ok v' w' ∧ OwnH w' base v' (k ++ l) ∧ w.grownBy w' v.ownBlock := by
  obtain ⟨i, hi, hz, hsize, hby⟩ := info_parts infoH
  obtain ⟨v', w', hrun, h2, h3, _, h5⟩ := run_append_own_at (P := Tryz.prog) w base 24 ty 38 i (.agg #[.string ⟨#[]⟩, .string ⟨#[]⟩]) 2 32 Tryz.underlying24 hi hz hsize hby rfl (by omega) v k.length (rowH k) hown ad m c (rowH l) (by rw [rowH_length, hl])
    (fun j u hu => by
      have hj := (List.getElem?_eq_some_iff.1 hu).1
      rw [rowH_length] at hj
      obtain ⟨g, off, e, _, hc⟩ := hA (by omega)
      cases e
      rw [WideShapes.add_plain]
      exact hc j u hu)
    (fun u hu => by
      obtain ⟨b, _, hb⟩ := List.mem_flatMap.1 hu
      rcases List.mem_cons.1 hb with rfl | hb
      · rfl
      · have : u = .string (S b.2) := by simpa using hb
        rw [this]; rfl) (by simp only [maxLen]; omega) (by omega) hbase
  exact ⟨v', w', hrun, by unfold OwnH; rw [List.length_append, rowH_append, hl]; exact h2, h3⟩
end
set_option maxRecDepth 100000 in
theorem wpList_append_h {w : World} {ops : Array Oper} {rest : List Oper} {o : Oper} {a : Act} {Q : Exit → Act → World → Prop} (hgd : o.guard = none) (s x : Operand)
    (ho : o.op = .call { callee := .builtin .append, args := #[s, x], argTypes := #[24, 24] })
    (base : Nat) (v : Value) (k : List (B × B)) (hs : a.eval s = v) (hown : OwnH w base v k)
    (ad : Addr) (m c : Nat) (l : List (B × B)) (hx : a.eval x = .slice (some ad) m c) (hl : l.length = m) (hA : HAt w (some ad) l) (hr : k.length + m ≤ 100000) (hbase : base ≤ w.heap.size)
    (h : ∀ v' w', OwnH w' base v' (k ++ l) → w.grownBy w' v.ownBlock → wpList Tryz.prog ops Q rest (a.put o.dst v') w') : wpList Tryz.prog ops Q (o :: rest) a w := by
  obtain ⟨v', w', hrun, h2, h3⟩ := run_append_h base o.type v k hown ad m c l hl hA hr hbase
  refine wpList_plain hgd fun _ hK => ?_
  unfold Oper.wp execOp
  simp only [ho, resolve, invoke, builtin, Sem.run_bind, Sem.run_pure, Result.andThen_ok, List.map_toArray, List.map_cons, List.map_nil, hs, hx, hrun]
  exact hK _ _ (h v' w' h2 h3)
theorem OwnH.grown {base : Nat} {v : Value} {l : List (B × B)} {a w w' : World} (ho : OwnH w base v l) (hb : Below base a w) (hg : w.grownBy w' v.ownBlock) (hs : base ≤ w.heap.size) : Below base a w' :=
  hb.trans ⟨hg.os, hg.tape, hg.output, hg.size, fun k hk => hg.block k (by omega) (fun e => by
    have := (ho.lt k e.symm).1
    omega)⟩
theorem head_one (w : World) (n v : ByteArray) (e : TypeId) (m : Nat × Nat) (b : Nat) (hb : b = w.heap.size) : HAt (w.alloc (.cells #[.string n, .string v] e m)) (some ⟨b, 0, none⟩) [(n.data.toList, v.data.toList)] := by
  subst hb
  refine fun _ => ⟨_, 0, rfl, by simp, fun j u hu => ?_⟩
  have e1 : rowH [(n.data.toList, v.data.toList)] = [.string n, .string v] := rfl
  rw [e1] at hu
  rw [Nat.zero_add, World.cell?_alloc_mark]
  simpa using hu
theorem below_drewN {B : Nat} {w w' : World} (h : Below B w w') (n : Nat) : Below B w (w'.drewN n) := ⟨h.os, h.tape, h.output, h.size, h.block⟩

/-- A response as a value, its headers at A with room for c. -/
def rV (r : Rs) (A : Option Addr) (c : Nat) : Value := .agg #[.int .i64 r.status, .slice A r.headers.length c, .string (S r.body), .bool r.head, .bool r.close]
/-- A response whose parts are no longer than all that comes in together. -/
structure RFit (r : Rs) : Prop where
  lo : -9223372036854775808 ≤ r.status
  hi : r.status ≤ 9223372036854775807
  n : r.headers.length ≤ 1048576
  body : r.body.length ≤ 1048576
  each : ∀ h ∈ r.headers, h.1.length ≤ 1048576 ∧ h.2.length ≤ 1048576
/-- What a good response isn't. -/
theorem bad_reason {r : Rs} (h : reason r.status = []) : good r = false := by unfold good; rw [h]; rfl
theorem bad_count {r : Rs} (h : 32 < r.headers.length) : good r = false := by
  unfold good
  rw [decide_eq_false (by omega : ¬ r.headers.length ≤ 32)]
  simp
theorem bad_body {r : Rs} (h : 65536 < r.body.length) : good r = false := by
  unfold good
  rw [decide_eq_false (by omega : ¬ r.body.length ≤ 65536)]
  simp
theorem bad_none {r : Rs} (h : r.status = 204) (hb : r.body ≠ []) : good r = false := by
  unfold good
  rw [h, decide_eq_false hb]
  simp
theorem bad_head {r : Rs} {h : B × B} (hm : h ∈ r.headers) (hh : hdr h = false) : good r = false := by
  unfold good
  have : r.headers.all hdr = false := by rw [List.all_eq_false]; exact ⟨h, hm, by simp [hh]⟩
  rw [this]
  simp
theorem good_all {r : Rs} (h1 : reason r.status ≠ []) (h2 : r.headers.length ≤ 32) (h3 : r.body.length ≤ 65536) (h4 : ∀ h ∈ r.headers, hdr h = true) (h5 : r.status = 204 → r.body = []) : good r = true :=
  good_of (reason_mem h1) h2 h3 (by rw [List.all_eq_true]; exact h4) h5
theorem hdr_is (h : B × B) : hdr h = (tokn h.1 && (val h.2 && (decide (trim h.2 = h.2) && (!decide (small h.1 = nCL) && (!decide (small h.1 = nCo) && !decide (small h.1 = nTE)))))) := by
  unfold hdr
  cases tokn h.1 <;> cases val h.2 <;> cases decide (trim h.2 = h.2) <;> cases decide (small h.1 = nCL) <;> cases decide (small h.1 = nCo) <;> cases decide (small h.1 = nTE) <;> rfl
end Go.Proofs.YtnodhbgkoedalaaGreatDoor
