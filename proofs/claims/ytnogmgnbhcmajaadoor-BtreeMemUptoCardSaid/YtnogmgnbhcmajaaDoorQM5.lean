/-
  btree.Mem: Write.
-/
import Derived.Test.YtnogmgnbhcmajaaDoorQM4
import Derived.Deep.CutRange
import Derived.Deep.DeepCutAuto
namespace Go.Proofs.YtnogmgnbhcmajaaDoor
open Go.RowKit

/-- Cells written into a block that is known whole. -/
theorem Held.cells_ {t : TypeId} (g : Nat) : ∀ (vs : List Value) (o : Nat) (w : World) (cur : Array Value), Held w g t cur → o + vs.length ≤ cur.size →
    ∃ cur', Held (w.setCells g o vs) g t cur' ∧ cur'.size = cur.size ∧ cur'.toList = cur.toList.take o ++ vs ++ cur.toList.drop (o + vs.length)
  | [], o, w, cur, h, _ => ⟨cur, h, rfl, by simp⟩
  | v :: vs, o, w, cur, h, hl => by
    obtain ⟨cur', h2, h3, h4⟩ := Held.cells_ g vs (o + 1) (w.setCell ⟨g, o, none⟩ v) (cur.setIfInBounds o v) (h.set_ o v) (by simp at hl ⊢; omega)
    refine ⟨cur', h2, by rw [h3]; simp, ?_⟩
    rw [h4]
    have ho : o < cur.toList.length := by simp at hl ⊢; omega
    rw [Array.toList_setIfInBounds, List.take_set, List.drop_set, if_pos (by omega), List.take_succ_eq_append_getElem ho, List.set_append_right _ _ (by simp; omega)]
    have e1 : o - (cur.toList.take o).length = 0 := by simp; omega
    rw [e1]
    simp only [List.set_cons_zero, List.length_cons, List.append_assoc, List.cons_append, List.nil_append]
    rw [show o + 1 + vs.length = o + (vs.length + 1) by omega]
theorem cells_far (g : Nat) : ∀ (vs : List Value) (o : Nat) (w : World) (k : Nat), k ≠ g → (w.setCells g o vs).heap[k]? = w.heap[k]?
  | [], _, _, _, _ => rfl
  | v :: vs, o, w, k, h => (cells_far g vs (o + 1) (w.setCell ⟨g, o, none⟩ v) k h).trans (Below.heap_setCell _ _ _ _ h)
theorem cells_size (g : Nat) : ∀ (vs : List Value) (o : Nat) (w : World), (w.setCells g o vs).heap.size = w.heap.size ∧ (w.setCells g o vs).os = w.os ∧ (w.setCells g o vs).tape = w.tape ∧ (w.setCells g o vs).output = w.output
  | [], _, _ => ⟨rfl, rfl, rfl, rfl⟩
  | v :: vs, o, w => by
    obtain ⟨h1, h2⟩ := cells_size g vs (o + 1) (w.setCell ⟨g, o, none⟩ v)
    exact ⟨h1.trans (World.size_setCell _ _ _), h2⟩
/-- A text on a block, with zeros behind. -/
def pad (l : List Nat) : List Nat := l ++ List.replicate (512 - l.length) 0
theorem pad_length {l : List Nat} (h : l.length ≤ 512) : (pad l).length = 512 := by
  unfold pad
  rw [List.length_append, List.length_replicate]
  omega
theorem pad_bytes {l : List Nat} (h : ∀ x ∈ l, x < 256) : ∀ x ∈ pad l, x < 256 := fun x hx => by
  rcases List.mem_append.1 hx with hx | hx
  · exact h x hx
  · have := List.eq_of_mem_replicate hx
    omega
/-- What copy and clear leave of a block. -/
def laid (w : World) (a : Nat) (l : List Nat) : World := (w.setCells a 0 (l.map u8v)).setCells a l.length (List.replicate (512 - l.length) (.int .u8 0))
theorem laid_held {w : World} {a : Nat} {k : KB} {l : List Nat} (h : Held w a 59 (blkC k)) (h1 : k.1.length = 512) (hl : l.length ≤ 512) : Held (laid w a l) a 59 (blkC (pad l, k.2)) := by
  have hs : (blkC k).size = 513 := by simp [blkC, h1]
  obtain ⟨c1, h2, h3, h4⟩ := Held.cells_ a (l.map u8v) 0 w _ h (by rw [hs]; simp; omega)
  obtain ⟨c2, h5, h6, h7⟩ := Held.cells_ a (List.replicate (512 - l.length) (.int .u8 0)) l.length _ _ h2 (by rw [h3, hs]; simp; omega)
  have e : c2 = blkC (pad l, k.2) := by
    apply Array.toList_inj.1
    rw [h7, h4]
    unfold blkC pad
    simp only [List.take_zero, List.nil_append, Nat.zero_add, List.length_map, List.length_replicate, List.map_append, List.map_replicate]
    rw [List.take_left' (by simp), List.append_assoc, List.append_assoc]
    congr 2
    rw [show l.length + (512 - l.length) = 512 by omega, List.drop_append, List.drop_eq_nil_of_le (by simp; exact hl), List.nil_append, List.drop_drop, List.drop_append, List.length_map]
    rw [List.drop_eq_nil_of_le (by simp; omega)]
    simp [h1]
    rw [show l.length + (512 - l.length) - 512 = 0 by omega]
    rfl
  rw [← e]
  exact h5
theorem laid_far (w : World) (a : Nat) (l : List Nat) (k : Nat) (hk : k ≠ a) : (laid w a l).heap[k]? = w.heap[k]? := (cells_far _ _ _ _ _ hk).trans (cells_far _ _ _ _ _ hk)
theorem laid_kp {B : Nat} {w : World} {a : Nat} {cs : Array Value} (l : List Nat) (h : Held w a 59 cs) (hB : B ≤ a) : Kp B w (laid w a l) := by
  obtain ⟨s1, s2, s3, s4⟩ := cells_size a (l.map u8v) 0 w
  obtain ⟨t1, t2, t3, t4⟩ := cells_size a (List.replicate (512 - l.length) (.int .u8 0)) l.length (w.setCells a 0 (l.map u8v))
  refine ⟨t2.trans s2, t3.trans s3, t4.trans s4, Nat.le_of_eq (t1.trans s1).symm, fun k hk hf => laid_far _ _ _ _ (fun e => ?_)⟩
  subst e
  rcases hf with h' | h'
  · omega
  · exact (h' _ _ _ h).2 rfl
theorem MemIs.laid_ {B : Nat} {w : World} {p g n : Nat} {ad : Nat → Nat} {f : Nat → Option KB} (h : MemIs B w p g n ad f) {i : Nat} {k : KB} (hf : f i = some k) (l : List Nat) (hl : l.length ≤ 512) (hb : ∀ x ∈ l, x < 256) : MemIs B (laid w (ad i) l) p g n ad (put f i (some (pad l, k.2))) := by
  obtain ⟨hi, a2, a3, _, a5⟩ := h.each i k hf
  refine ⟨(laid_far _ _ _ _ (Held.ne_ h.blk a2 (by decide))).trans h.blk, ?_, fun j x hx => ?_, fun j j' hj hj' e => ?_, h.base, h.small⟩
  · have e : rowC n ad (put f i (some (pad l, k.2))) = rowC n ad f := by
      unfold rowC
      congr 1
      refine List.map_congr_left (fun j _ => ?_)
      unfold ptrC put
      by_cases hj : j = i
      · subst hj; rw [if_pos rfl, hf]
      · rw [if_neg hj]
    rw [e]
    exact (laid_far _ _ _ _ (Held.ne_ h.row a2 (by decide))).trans h.row
  · unfold put at hx
    by_cases hj : j = i
    · rw [if_pos hj] at hx
      injection hx with hx
      subst hx hj
      exact ⟨hi, laid_held a2 a3 hl, pad_length hl, pad_bytes hb, a5⟩
    · rw [if_neg hj] at hx
      obtain ⟨b1, b2, b3⟩ := h.each j x hx
      exact ⟨b1, (laid_far _ _ _ _ (fun e => hj (h.inj j i (by rw [hx]; simp) (by rw [hf]; simp) e))).trans b2, b3⟩
  · have sup : ∀ m, put f i (some (pad l, k.2)) m ≠ none → f m ≠ none := fun m hm => by
      unfold put at hm
      by_cases c : m = i
      · rw [c, hf]; simp
      · rwa [if_neg c] at hm
    exact h.inj j j' (sup j hj) (sup j' hj') e
theorem copy_blk {w : World} {a : Nat} {k : KB} (h : Held w a 59 (blkC k)) (h1 : k.1.length = 512) (ty : TypeId) (A : Option Addr) (m c' : Nat) (l : List Nat) (hb : Bts w A m l) (hm : m ≤ 512) :
    (Builtin.copy_ #[34, 34] ty #[.slice (some ⟨a, 0, none⟩) 512 512, .slice A m c']).run Tryd.prog w = .ok (goInt m) (w.setCells a 0 (l.map u8v)) := by
  obtain ⟨i, hi, _, hi1, _⟩ := info_parts info5
  have hs : (Tryd.prog.info? 5).map (·.size) = some 1 := by rw [hi]; simp [hi1]
  have hsz : (blkC k).size = 513 := by simp [blkC, h1]
  rcases Nat.eq_zero_or_pos m with h0 | h0
  · subst h0
    have hl : l = [] := List.eq_nil_of_length_eq_zero hb.1
    subst hl
    exact run_copy_none (P := Tryd.prog) w 34 34 ty 5 _ A 512 512 0 c' Tryd.underlying34 hs (by simp)
  · obtain ⟨b, off, rfl, _, _⟩ := hb.2.2 h0
    have hl := hb.1
    have := run_copy_cells (P := Tryd.prog) w 34 34 ty 5 a 0 512 512 ⟨b, off, none⟩ m c' (l.map u8v) Tryd.underlying34 hs (by rw [List.length_map, hl]; exact (Nat.min_eq_left hm).symm) (hb.at_ rfl)
      (fun j hj => by rw [List.length_map] at hj; rw [Nat.zero_add, h.cell, Array.getElem?_eq_getElem (by omega)]; rfl) (fun j _ => h.frozen _) (fun v hv => by obtain ⟨x, _, rfl⟩ := List.mem_map.1 hv; rfl)
    rw [List.length_map, hl] at this
    exact this
theorem clear_blk {w : World} {a : Nat} {cs : Array Value} (h : Held w a 59 cs) (hs : cs.size = 513) (ty : TypeId) (m c : Nat) (hm : m < 512) :
    (Builtin.clear_ #[34] ty #[.slice (some ⟨a, m, none⟩) (512 - m) c]).run Tryd.prog w = .ok (.tuple #[]) (w.setCells a m (List.replicate (512 - m) (.int .u8 0))) := by
  have hz : (Tryd.prog.info? 5).map (fun i => (i.zero, i.size)) = some (some (.int .u8 0), 1) := by kernel_rfl
  exact Lib.run_clear_slice w 34 5 ty (.int .u8 0) Tryd.underlying34 (zero_of_info hz).1 rfl rfl a m (512 - m) c (by omega) (fun j hj => by rw [h.cell, Array.getElem?_eq_getElem (by omega)]; rfl) (fun j _ => h.frozen _)
theorem clear_none (w : World) (ty : TypeId) (A : Option Addr) (c : Nat) : (Builtin.clear_ #[34] ty #[.slice A 0 c]).run Tryd.prog w = .ok (.tuple #[]) w := by
  cases A <;> simp [Builtin.clear_, run_underlying Tryd.underlying34]
set_option maxRecDepth 100000 in
set_option maxHeartbeats 1600000 in
theorem write_yes (B : Nat) (w : World) (p n : Nat) (f : Nat → Option KB) (h : MemAt B w p n f) (i : Nat) (l0 : List Nat) (hf : f i = some (l0, false)) (A : Option Addr) (m c : Nat) (l : List Nat) (hl : Bts w A m l) (hm : m ≤ 512) :
    Calls Tryd.prog 9 #[.pointer (some ⟨p, 0, none⟩), .int .i64 ((i : Int) + 1), .slice A m c] w fun e w' => e = .returned (.int .i64 0) ∧ MemAt B w' p n (put f i (some (pad l, false))) ∧ Kp B w w' := by
  obtain ⟨g, ad, h⟩ := h
  have FD := Lib.hid (find_yes B w p g n ad f h i _ hf)
  obtain ⟨hi, a2, a3, _, a5⟩ := h.each i _ hf
  have a3 : l0.length = 512 := a3
  have hll : l.length = m := hl.1
  have c1 : w.cell? ⟨ad i, 512, none⟩ = some (.bool false) := by rw [a2.cell, blkC_held _ a3]
  have z1 : ¬ (512 : Int) < (m : Int) := by omega
  have h2 : MemIs B w.drew p g n ad f := h.drew
  have FIN : Hid (MemAt B (laid w.drew (ad i) l) p n (put f i (some (pad l, false))) ∧ Kp B w (laid w.drew (ad i) l)) := ⟨⟨g, ad, h2.laid_ hf l (by omega) hl.2.1⟩, (Kp.under ⟨rfl, rfl, rfl, Nat.le_refl _, fun _ _ => rfl⟩ : Kp B w w.drew).trans (laid_kp l (show Held w.drew (ad i) _ _ from a2) a5)⟩
  have cp := fun ty => copy_blk (w := w.drew) (show Held w.drew (ad i) _ _ from a2) a3 ty A m c l (show Bts w.drew A m l from hl) hm
  obtain ⟨c2, b1, b2, _⟩ := Held.cells_ (ad i) (l.map u8v) 0 w.drew _ (show Held w.drew (ad i) _ _ from a2) (by simp [blkC, a3]; omega)
  have b2' : c2.size = 513 := by rw [b2]; simp [blkC, a3]
  have LD : Hid (laid w.drew (ad i) l = (w.drew.setCells (ad i) 0 (l.map u8v)).setCells (ad i) m (List.replicate (512 - m) (.int .u8 0))) := by show _ = _; unfold laid; rw [hll]
  rw [LD.out] at FIN
  by_cases h512 : m = 512
  · subst h512
    have cl := fun ty A' c' => clear_none (w.drew.setCells (ad i) 0 (l.map u8v)) ty A' c'
    simp only [Nat.sub_self, List.replicate_zero] at FIN
    have FIN2 : Hid (MemAt B (w.drew.setCells (ad i) 0 (l.map u8v)) p n (put f i (some (pad l, false))) ∧ Kp B w (w.drew.setCells (ad i) 0 (l.map u8v))) := FIN.out
    clear h hf a2 a3 h2 hl b1 b2 b2' FIN LD
    go_enter Tryd.func9, Tryd.ntmps9
    go_wp2_with fail
    refine FD.out.mono ?_
    rintro e w' ⟨rfl, rfl⟩
    clear FD
    go_upto_region 8 with fail
    go_region
    all_goals
      go_wp2_with fail
      go_ret
      exact ⟨rfl, FIN2.out⟩
  · have hlt : m < 512 := by omega
    have cl := fun ty c' => clear_blk b1 b2' ty m c' hlt
    clear h hf a2 a3 h2 hl b1 b2 b2'
    go_enter Tryd.func9, Tryd.ntmps9
    go_wp2_with fail
    refine FD.out.mono ?_
    rintro e w' ⟨rfl, rfl⟩
    clear FD
    go_upto_region 8 with fail
    go_region
    all_goals
      go_wp2_with fail
      go_ret
      exact ⟨rfl, FIN.out⟩
end Go.Proofs.YtnogmgnbhcmajaaDoor
