/-
  What the bound on the bulk gives. · Slices of strings appended to a row of strings of the call's own; such a row as a slice of strings; what the bound on the bulk gives of strings.
-/
import Derived.Test.YtgbilhfpogdfeaaRows
import Derived.Test.YtgbilhfpogdfeaaMFix
namespace Go.Proofs.Ytgbilhfpogdfeaa

theorem bulk_pos {H : Type} (d : DataW H) : 1 ≤ Rows.uptoBulk d := by
  cases d with
  | lit l => cases l <;> simp [Rows.uptoBulk]
  | _ => simp [Rows.uptoBulk]

theorem bulk_len {H : Type} (l : List (DataW H)) : l.length ≤ Rows.uptoBulkAll l := by
  induction l with
  | nil => simp [Rows.uptoBulkAll]
  | cons x r ih => have := bulk_pos x; simp only [Rows.uptoBulkAll, List.length_cons]; omega

theorem bulk_mem {H : Type} {d : DataW H} {l : List (DataW H)} (h : d ∈ l) : Rows.uptoBulk d ≤ Rows.uptoBulkAll l := by
  induction l with
  | nil => cases h
  | cons x r ih =>
    simp only [Rows.uptoBulkAll]
    cases List.mem_cons.1 h with
    | inl e => subst e; omega
    | inr e => have := ih e; omega

theorem bulk_of_bytes {H : Type} {d : DataW H} {n c : Nat} (h : (d = .nil ∧ n = 0 ∧ c = 0) ∨ ∃ elems spare, d = .slice elems spare ∧ elems.length = n ∧ elems.length + spare.length = c) : n ≤ Rows.uptoBulk d := by
  rcases h with ⟨_, rfl, _⟩ | ⟨el, sp, rfl, rfl, _⟩
  · omega
  · have := bulk_len el
    simp only [Rows.uptoBulk]
    omega
end Go.Proofs.Ytgbilhfpogdfeaa

namespace Go.Proofs.Ytgbilhfpogdfeaa
open Go.RowKit Wal

def strVs (l : List ByteArray) : List Value := l.map Value.string
theorem strVs_append (a b : List ByteArray) : strVs (a ++ b) = strVs a ++ strVs b := by simp [strVs]

set_option maxRecDepth 100000 in
theorem run_append_strs (w : World) (base : Nat) (ty : TypeId) (v : Value) (k : Nat) (xs : List Value) (hr : w.ownsRow base 9 1 v k xs) (A : Option Addr) (m c : Nat) (l : List ByteArray) (hl : Strs w A m l) (hk : k + m ≤ 8796093022208) (hb : base ≤ w.heap.size) :
    ∃ v' w', (Builtin.append_ #[57, 57] ty #[v, .slice A m c]).run Try.prog w = .ok v' w' ∧ w'.ownsRow base 9 1 v' (k + m) (xs ++ strVs l) ∧ w.grownBy w' v.ownBlock ∧ (v'.ownBlock = v.ownBlock ∨ v'.ownBlock = some w.heap.size) := by
  obtain ⟨i, hi, hz, hsize, hby⟩ := info_parts infoS
  rcases A with _ | ad
  · have hm : m = 0 := by
      rcases Nat.eq_zero_or_pos m with h0 | h0
      · exact h0
      · obtain ⟨b, off, h, _⟩ := hl.2.2 h0
        cases h
    subst hm
    have hn : l = [] := List.eq_nil_of_length_eq_zero hl.1
    subst hn
    refine ⟨v, w, ?_, by simpa [strVs] using hr, World.grownBy.refl w _, .inl rfl⟩
    rcases hr.2 with ⟨rfl, rfl⟩ | ⟨g, cap, cur, rfl, _, _, hnc, _⟩
    · simp [Builtin.append_, run_underlying Try.underlying57, sizeOf, typeInfo, hi, Builtin.lenOf, Builtin.firstCells]
    · simp [Builtin.append_, run_underlying Try.underlying57, sizeOf, typeInfo, hi, Builtin.lenOf, Builtin.firstCells, hnc, storeCells]
  · obtain ⟨v', w', h1, h2, h3, _, h4⟩ := run_append_own_at (P := Try.prog) w base 57 ty 9 i (.string ⟨#[]⟩) 1 16 Try.underlying57 hi hz hsize hby rfl (by omega) v k xs hr ad m c (strVs l) (by simp [strVs, hl.1])
      (fun j y hy => by
        unfold strVs at hy
        rw [List.getElem?_map] at hy
        obtain ⟨s, hs, rfl⟩ := Option.map_eq_some_iff.1 hy
        have hj := (List.getElem?_eq_some_iff.1 hs).1
        rw [hl.1] at hj
        obtain ⟨b, off, e, _, hc⟩ := hl.2.2 (by omega)
        injection e with e
        subst e
        rw [WideShapes.add_plain]
        exact hc j s hs) (fun y hy => by
        obtain ⟨s, _, rfl⟩ := List.mem_map.1 hy
        rfl) (by simp only [maxLen]; omega) (by omega) hb
    exact ⟨v', w', h1, h2, h3, h4⟩
set_option maxRecDepth 100000 in
theorem wpList_append_strs {ops : Array Oper} {rest : List Oper} {o : Oper} {a : Act} {w : World} {Q : Exit → Act → World → Prop} (hgd : o.guard = none) (s x : Operand) (base : Nat)
    (ho : o.op = .call { callee := .builtin .append, args := #[s, x], argTypes := #[57, 57] }) (v : Value) (k : Nat) (xs : List Value) (hs : a.eval s = v) (hr : w.ownsRow base 9 1 v k xs) (A : Option Addr) (m c : Nat) (l : List ByteArray) (hx : a.eval x = .slice A m c)
    (hl : Strs w A m l) (hk : k + m ≤ 8796093022208) (hb : base ≤ w.heap.size)
    (h : ∀ v' w', w'.ownsRow base 9 1 v' (k + m) (xs ++ strVs l) → w.grownBy w' v.ownBlock → (v'.ownBlock = v.ownBlock ∨ v'.ownBlock = some w.heap.size) → wpList Try.prog ops Q rest (a.put o.dst v') w') : wpList Try.prog ops Q (o :: rest) a w := by
  obtain ⟨v', w', h1, h2, h3, h4⟩ := run_append_strs w base o.type v k xs hr A m c l hl hk hb
  refine wpList_plain hgd fun _ hK => ?_
  unfold Oper.wp execOp
  simp only [ho, resolve, invoke, builtin, Sem.run_bind, Sem.run_pure, Result.andThen_ok, List.map_toArray, List.map_cons, List.map_nil, hs, hx, h1]
  exact hK _ _ (h v' w' h2 h3 h4)
/-- A row of the call's own was appended to. -/
theorem row_grown {w0 w w' : World} {base : Nat} {e : TypeId} {size n : Nat} {v : Value} {xs : List Value} (h : w.ownsRow base e size v n xs) (hb : Below base w0 w) (hg : w.grownBy w' v.ownBlock) (hB : base ≤ w.heap.size) : Below base w0 w' :=
  ⟨hg.os.trans hb.os, hg.tape.trans hb.tape, hg.output.trans hb.output, Nat.le_trans hb.size hg.size, fun k hk => (hg.block k (Nat.lt_of_lt_of_le hk hB) (fun e => by have := (h.lt k e.symm).1; omega)).trans (hb.block k hk)⟩
/-- A row of strings of the call's own, as a slice of strings. -/
theorem strs_row {w : World} {base n c : Nat} {A : Option Addr} {l : List ByteArray} (h : w.ownsRow base 9 1 (.slice A n c) n (strVs l)) (hs : ∀ s ∈ l, s.size ≤ 4611686018427387904) : Strs w A n l := by
  have hl : l.length = n := by have := h.1; simp [strVs] at this; omega
  refine ⟨hl, hs, fun h0 => ?_⟩
  rcases h.2 with ⟨_, h1⟩ | ⟨g, cap, cur, e, hg, hh, _⟩
  · omega
  · injection e with e1 _ _
    subst e1
    refine ⟨g, 0, rfl, (Array.getElem?_eq_some_iff.1 hh).1, fun i s hi => ?_⟩
    have hil := (List.getElem?_eq_some_iff.1 hi).1
    rw [Nat.zero_add, h.cellAt i (by omega)]
    unfold strVs
    rw [List.getElem?_map, hi]
    rfl

theorem bulk_strs {H : Type} (l : List ByteArray) : bodyLen (txts l) ≤ 4 * Rows.uptoBulkAll (H := H) (l.map fun s => .lit (.string s.data.toList)) ∧ l.length ≤ Rows.uptoBulkAll (H := H) (l.map fun s => .lit (.string s.data.toList)) ∧ ∀ s ∈ l, s.size ≤ Rows.uptoBulkAll (H := H) (l.map fun s => .lit (.string s.data.toList)) := by
  induction l with
  | nil => simp [txts, bodyLen, Rows.uptoBulkAll]
  | cons s r ih =>
    obtain ⟨h1, h2, h3⟩ := ih
    have hs : (nums s).length = s.size := nums_length s
    have hb : s.data.toList.length = s.size := Array.length_toList
    simp only [txts, bodyLen, List.map_cons, List.sum_cons, Rows.uptoBulkAll, Rows.uptoBulk, List.length_cons] at h1 h2 h3 ⊢
    refine ⟨by omega, by omega, fun x hx => ?_⟩
    rcases List.mem_cons.1 hx with rfl | hx
    · omega
    · have := h3 x hx
      omega
theorem weights_string {H : Type} (d : DataW H) : ∀ x ∈ DataW.weights Try.prog 9 d, x ≤ Rows.uptoBulk d := by
  cases d with
  | lit l => cases l <;> simp [DataW.weights, Rows.uptoBulk]
  | ptr d => simp [DataW.weights, Try.underlying9]
  | slice el sp => simp [DataW.weights, Try.underlying9]
  | agg ps => simp [DataW.weights, Try.underlying9]
  | map es => simp [DataW.weights, Try.underlying9]
  | _ => simp [DataW.weights]
theorem weights_strings {H : Type} (l : List (DataW H)) : ∀ x ∈ DataW.weightsAll Try.prog 9 l, x ≤ Rows.uptoBulkAll l := by
  induction l with
  | nil => simp [DataW.weightsAll]
  | cons d r ih =>
    intro x hx
    simp only [DataW.weightsAll, List.mem_append] at hx
    simp only [Rows.uptoBulkAll]
    rcases hx with hx | hx
    · have := weights_string d x hx; omega
    · have := ih x hx; omega
theorem small_bulk {H : Type} {d : DataW H} (h : Rows.uptoBulk d ≤ 1048576) : Small Try.prog 57 d := by
  unfold Small
  cases d with
  | slice el sp =>
    intro x hx
    have e1 := bulk_len el
    have e2 := bulk_len sp
    simp only [Rows.uptoBulk] at h
    simp only [DataW.weights, Try.underlying57, List.mem_cons, List.mem_append, bytesS] at hx
    simp only [reachBytes]
    rcases hx with rfl | hx | hx
    · omega
    · have := weights_strings el x hx; omega
    · have := weights_strings sp x hx; omega
  | lit l => cases l <;> simp [DataW.weights, Rows.uptoBulk, reachBytes] at h ⊢; omega
  | ptr d => simp [DataW.weights, Try.underlying57]
  | agg ps => simp [DataW.weights, Try.underlying57]
  | map es => simp [DataW.weights, Try.underlying57]
  | _ => simp [DataW.weights]
end Go.Proofs.Ytgbilhfpogdfeaa
