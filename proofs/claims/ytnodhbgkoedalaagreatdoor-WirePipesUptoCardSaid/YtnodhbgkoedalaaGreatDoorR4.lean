/-
  reply: what the document's Lower and Digits answer.
-/
import Derived.Test.YtnodhbgkoedalaaGreatDoorR3
namespace Go.Proofs.YtnodhbgkoedalaaGreatDoor
open Go.RowKit Reply

theorem cells5 : Tryz.prog.cellsOf 5 = 1 := by kernel_rfl
theorem info5 : (Tryz.prog.info? 5).map (fun i => (i.zero, i.size, i.bytes)) = some (some (.int .u8 0), 1, 1) := by kernel_rfl
theorem byteT : ByteT Tryz.prog 31 5 := ⟨Tryz.underlying31, Tryz.underlying5, cells5, info5⟩
theorem setCell_mark (w : World) (g i : Nat) (cs : Array Value) (t : TypeId) (mk : Nat × Nat) (u : Value) (h : w.heap[g]? = some (.cells cs t mk)) : (w.setCell ⟨g, i, none⟩ u).heap[g]? = some (.cells (cs.setIfInBounds i u) t mk) := by
  simp [World.setCell, Array.getElem?_modify, h]
theorem bytes_below (w : World) (e : TypeId) (s : ByteArray) : Below w.heap.size w (Lib.bytesWorld w e s) :=
  ⟨rfl, rfl, rfl, by rw [Lib.bytesWorld_size]; omega, fun k hk => Lib.bytesWorld_at_old w e s k hk⟩
/-- A block whose first cells are these bytes; none of them is frozen. -/
def LowAt (w : World) (g : Nat) (l : B) : Prop := ∃ cs mk, w.heap[g]? = some (.cells cs 5 mk) ∧ cs.size ≤ mk.1 ∧ l.length ≤ cs.size ∧ ∀ i, i < l.length → cs[i]? = some (.int .u8 ((l.getD i 0).toNat : Int))
theorem LowAt.cell {w : World} {g : Nat} {l : B} (h : LowAt w g l) {i : Nat} (hi : i < l.length) : w.cell? ⟨g, i, none⟩ = some (.int .u8 ((l.getD i 0).toNat : Int)) := by
  obtain ⟨cs, mk, h1, h2, h3, h4⟩ := h
  rw [cell_of_row w g i cs _ mk h1]
  exact h4 i hi
theorem LowAt.free {w : World} {g : Nat} {l : B} (h : LowAt w g l) {i : Nat} (hi : i < l.length) : w.frozen? ⟨g, i, none⟩ = false := by
  obtain ⟨cs, ⟨a, b⟩, h1, h2, h3, h4⟩ := h
  simp only at h2
  simp [World.frozen?, h1]
  omega
theorem LowAt.set {w : World} {g : Nat} {l l' : B} (h : LowAt w g l) (hl : l'.length = l.length) {i : Nat} (hi : i < l.length) (x : UInt8) (hx : l'.getD i 0 = x) (ho : ∀ j, j < l.length → j ≠ i → l'.getD j 0 = l.getD j 0) :
    LowAt (w.setCell ⟨g, i, none⟩ (.int .u8 (x.toNat : Int))) g l' := by
  obtain ⟨cs, mk, h1, h2, h3, h4⟩ := h
  refine ⟨cs.setIfInBounds i (.int .u8 (x.toNat : Int)), mk, setCell_mark w g i cs _ mk _ h1, by simpa using h2, by simp; omega, fun j hj => ?_⟩
  rw [hl] at hj
  by_cases e : j = i
  · subst e
    rw [hx, Array.getElem?_setIfInBounds_self_of_lt (by omega)]
  · rw [Array.getElem?_setIfInBounds_ne (fun h => e h.symm), h4 j hj, ho j hj e]
theorem LowAt.bts {w : World} {g : Nat} {l : B} (h : LowAt w g l) : Bts w (some ⟨g, 0, none⟩) l.length (l.map (·.toNat)) := by
  refine ⟨by simp, fun x hx => ?_, fun _ => ⟨g, 0, rfl, ?_, fun i hi => ?_⟩⟩
  · obtain ⟨c, _, rfl⟩ := List.mem_map.1 hx
    exact c.toNat_lt
  · obtain ⟨cs, mk, h1, _⟩ := h
    exact (Array.getElem?_eq_some_iff.1 h1).1
  · rw [Nat.zero_add, h.cell hi]
    simp [List.getD_eq_getElem?_getD, List.getElem?_map, List.getElem?_eq_getElem hi]
theorem low_new (w : World) (l : B) : LowAt (Lib.bytesWorld w 5 (S l)) w.heap.size l := by
  have hge := grownCap_ge w (S l).size 0 5
  refine ⟨_, _, Lib.bytesWorld_at_new w 5 (S l), Nat.le_refl _, ?_, fun i hi => ?_⟩
  · unfold Lib.bytesCells
    rw [Array.size_append, Array.size_map]
    have : (S l).data.size = l.length := S_size l
    omega
  · unfold Lib.bytesCells
    have hi' : i < (S l).data.size := by have : (S l).data.size = l.length := S_size l; omega
    rw [Array.getElem?_append_left (by rw [Array.size_map]; exact hi'), Array.getElem?_map]
    have : (S l).data[i]? = some (l.getD i 0) := by
      show l.toArray[i]? = _
      rw [List.getElem?_toArray, List.getD_eq_getElem?_getD, List.getElem?_eq_getElem hi]
      rfl
    rw [this]
    rfl
theorem small_next {l : B} {k : Nat} (h : k < l.length) : ((l.take (k + 1)).map low ++ l.drop (k + 1)).getD k 0 = low (l.getD k 0) := by
  have h1 : ((l.take (k + 1)).map low).length = k + 1 := by simp; omega
  rw [List.getD_eq_getElem?_getD, List.getElem?_append_left (by omega), List.getElem?_map, List.getElem?_take, if_pos (by omega), List.getD_eq_getElem?_getD, List.getElem?_eq_getElem h]
  rfl
theorem small_here {l : B} {k : Nat} (h : k < l.length) : ((l.take k).map low ++ l.drop k).getD k 0 = l.getD k 0 := by
  have h1 : ((l.take k).map low).length = k := by simp; omega
  rw [List.getD_eq_getElem?_getD, List.getElem?_append_right (by omega), h1, Nat.sub_self, List.getElem?_drop, Nat.add_zero, List.getD_eq_getElem?_getD]
theorem small_else {l : B} {k j : Nat} (h : k < l.length) (hj : j ≠ k) : ((l.take (k + 1)).map low ++ l.drop (k + 1)).getD j 0 = ((l.take k).map low ++ l.drop k).getD j 0 := by
  have h1 : ((l.take (k + 1)).map low).length = k + 1 := by simp; omega
  have h2 : ((l.take k).map low).length = k := by simp; omega
  rw [List.getD_eq_getElem?_getD, List.getD_eq_getElem?_getD]
  rcases Nat.lt_or_ge j k with h' | h'
  · rw [List.getElem?_append_left (by omega), List.getElem?_append_left (by omega), List.getElem?_map, List.getElem?_map, List.getElem?_take, List.getElem?_take, if_pos (by omega), if_pos (by omega)]
  · rw [List.getElem?_append_right (by omega), List.getElem?_append_right (by omega), h1, h2, List.getElem?_drop, List.getElem?_drop]
    congr 2
    omega
theorem small_len {l : B} {k : Nat} (h : k ≤ l.length) : ((l.take k).map low ++ l.drop k).length = l.length := by simp; omega
theorem small_same {l : B} {k : Nat} (h : k < l.length) (hc : low (l.getD k 0) = l.getD k 0) : (l.take (k + 1)).map low ++ l.drop (k + 1) = (l.take k).map low ++ l.drop k := by
  rw [take_nextU h, List.map_append, List.append_assoc]
  congr 1
  rw [List.map_singleton, hc, List.drop_eq_getElem_cons h, List.getD_eq_getElem?_getD, List.getElem?_eq_getElem h]
  rfl
theorem low_nat {c : UInt8} {x : Nat} (hx : x = c.toNat) (h : 65 ≤ x ∧ x ≤ 90) : (low c).toNat = x + 32 := by
  subst hx
  unfold low
  rw [if_pos h, UInt8.toNat_add]
  show (c.toNat + 32) % 256 = _
  omega
theorem low_else {c : UInt8} {x : Nat} (hx : x = c.toNat) (h : ¬ (65 ≤ x ∧ x ≤ 90)) : low c = c := by
  subst hx
  unfold low
  rw [if_neg h]
end Go.Proofs.YtnodhbgkoedalaaGreatDoor
