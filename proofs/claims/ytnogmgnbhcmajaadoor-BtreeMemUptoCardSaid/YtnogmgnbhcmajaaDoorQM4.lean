/-
  btree.Mem: Read, Free, Write.
-/
import Derived.Test.YtnogmgnbhcmajaaDoorQM2
import Derived.Laws.IdiomCopy
import Derived.Lib.SliceRun
namespace Go.Proofs.YtnogmgnbhcmajaaDoor
open Go.RowKit

theorem MemIs.bytes {B : Nat} {w : World} {p g n : Nat} {ad : Nat → Nat} {f : Nat → Option KB} (h : MemIs B w p g n ad f) {i : Nat} {k : KB} (hf : f i = some k) : Bts w (some ⟨ad i, 0, none⟩) 512 k.1 := by
  obtain ⟨_, a2, a3, a4, _⟩ := h.each i k hf
  refine ⟨a3, a4, fun _ => ⟨_, 0, rfl, a2.lt, fun j hj => ?_⟩⟩
  rw [Nat.zero_add, a2.cell, blkC_at k j (by omega)]
  rfl
set_option maxRecDepth 100000 in
theorem read_yes (B : Nat) (w : World) (p n : Nat) (f : Nat → Option KB) (h : MemAt B w p n f) (i : Nat) (k : KB) (hf : f i = some k) :
    Calls Tryd.prog 10 #[.pointer (some ⟨p, 0, none⟩), .int .i64 ((i : Int) + 1)] w fun e w' => ∃ v, e = .returned (.tuple #[v, .int .i64 0]) ∧ OwnB w' w.heap.size 5 v k.1 ∧ Below w.heap.size w w' := by
  obtain ⟨g, ad, h⟩ := h
  have FD := Lib.hid (find_yes B w p g n ad f h i k hf)
  have CL := Lib.hid (clone_bts w ⟨ad i, 0, none⟩ 512 512 k.1 (h.bytes hf) (by omega))
  clear h hf
  go_enter Tryd.func10, Tryd.ntmps10
  go_wp2_with fail
  refine FD.out.mono ?_
  rintro e w' ⟨rfl, rfl⟩
  clear FD
  go_wp2_with fail
  refine CL.out.mono ?_
  rintro e w' ⟨v, rfl, ho, hb⟩
  have O := Lib.hid ho
  have BB := Lib.hid hb
  clear CL ho hb
  go_wp2_with fail
  go_ret2
  exact ⟨v, rfl, O.out, BB.out⟩
set_option maxRecDepth 100000 in
theorem read_no (B : Nat) (w : World) (p n : Nat) (f : Nat → Option KB) (h : MemAt B w p n f) (b : Int) (h1 : -9223372036854775808 ≤ b) (h2 : b ≤ 9223372036854775807) (hf : ∀ i : Nat, b = (i : Int) + 1 → f i = none) :
    Calls Tryd.prog 10 #[.pointer (some ⟨p, 0, none⟩), .int .i64 b] w fun e w' => e = .returned (.tuple #[.slice none 0 0, .int .i64 1]) ∧ w = w' := by
  obtain ⟨g, ad, h⟩ := h
  have FD := Lib.hid (find_no B w p g n ad f h b h1 h2 hf)
  clear h hf
  go_enter Tryd.func10, Tryd.ntmps10
  go_wp2_with fail
  refine FD.out.mono ?_
  rintro e w' ⟨rfl, rfl⟩
  clear FD
  go_wp2_with fail
  go_ret2
  exact ⟨rfl, rfl⟩
theorem MemIs.freed {B : Nat} {w : World} {p g n : Nat} {ad : Nat → Nat} {f : Nat → Option KB} (h : MemIs B w p g n ad f) (i : Nat) (hi : i < n) :
    MemIs B (w.setCell ⟨g, i, none⟩ (.pointer none)) p g n ad (put f i none) := by
  have hp : p ≠ g := Held.ne_ h.blk h.row (by decide)
  have sub : ∀ j k, put f i none j = some k → f j = some k := fun j k hk => by
    unfold put at hk
    split at hk
    · cases hk
    · exact hk
  refine ⟨h.blk.far (p := ⟨g, i, none⟩) hp _, ?_, fun j k hk => ?_, fun j k hj hk e => ?_, h.base, h.small⟩
  · have h1 := h.row.set_ i (.pointer none)
    have h2 := rowC_put (ad := ad) (f := f) i (ad i) none hi
    rw [show (fun j => if j = i then ad i else ad j) = ad from funext fun j => by split <;> simp_all] at h2
    rw [← h2]
    exact h1
  · obtain ⟨a1, a2, a3⟩ := h.each j k (sub j k hk)
    exact ⟨a1, a2.far (p := ⟨g, i, none⟩) (Held.ne_ a2 h.row (by decide)) _, a3⟩
  · obtain ⟨x, hx⟩ := Option.ne_none_iff_exists'.1 hj
    obtain ⟨y, hy⟩ := Option.ne_none_iff_exists'.1 hk
    exact h.inj j k (by rw [sub j x hx]; simp) (by rw [sub k y hy]; simp) e
theorem kp_row {B : Nat} {w : World} {p g n : Nat} {ad : Nat → Nat} {f : Nat → Option KB} (h : MemIs B w p g n ad f) (i : Nat) (v : Value) : Kp B w (w.setCell ⟨g, i, none⟩ v) := by
  refine ⟨rfl, rfl, rfl, by simp [World.setCell], fun k hk hf => Below.heap_setCell _ _ _ _ (fun e => ?_)⟩
  rcases hf with h' | h'
  · have := h.base.2
    subst e
    omega
  · subst e
    exact (h' _ _ _ h.row).1 rfl
set_option maxRecDepth 100000 in
theorem free_yes (B : Nat) (w : World) (p n : Nat) (f : Nat → Option KB) (h : MemAt B w p n f) (i : Nat) (l : List Nat) (hf : f i = some (l, false)) :
    Calls Tryd.prog 8 #[.pointer (some ⟨p, 0, none⟩), .int .i64 ((i : Int) + 1)] w fun e w' => e = .returned (.int .i64 0) ∧ MemAt B w' p n (put f i none) ∧ Kp B w w' := by
  obtain ⟨g, ad, h⟩ := h
  have H := Lib.hid h
  have FD := Lib.hid (find_yes B w p g n ad f h i _ hf)
  obtain ⟨hi, a2, a3, _⟩ := h.each i _ hf
  have hn := h.small
  have c0 : w.cell? ⟨p, 0, none⟩ = some (.slice (some ⟨g, 0, none⟩) n n) := h.blk.cell 0
  have c1 : w.cell? ⟨ad i, 512, none⟩ = some (.bool false) := by rw [a2.cell, blkC_held _ a3]
  have c2 : w.cell? ⟨g, i, none⟩ = some (.pointer (some ⟨ad i, 0, none⟩)) := by rw [h.ptr i hi]; unfold ptrC; rw [hf]
  have z2 := h.row.frozen i
  have z3 : (i : Int) + 1 - 1 = (i : Int) := by omega
  have z4 : (i : Int) < (n : Int) := by omega
  have FIN : Hid (MemAt B (w.setCell ⟨g, i, none⟩ (.pointer none)) p n (put f i none) ∧ Kp B w (w.setCell ⟨g, i, none⟩ (.pointer none))) := ⟨⟨g, ad, h.freed i hi⟩, kp_row h i _⟩
  clear h hf a2 a3
  go_enter Tryd.func8, Tryd.ntmps8
  go_wp2_with fail
  refine FD.out.mono ?_
  rintro e w' ⟨rfl, rfl⟩
  clear FD
  go_wp2_with fail
  go_ret
  exact ⟨rfl, FIN.out⟩
set_option maxRecDepth 100000 in
theorem free_no (B : Nat) (w : World) (p n : Nat) (f : Nat → Option KB) (h : MemAt B w p n f) (b : Int) (h1 : -9223372036854775808 ≤ b) (h2 : b ≤ 9223372036854775807) (hf : ∀ i : Nat, b = (i : Int) + 1 → f i = none) :
    Calls Tryd.prog 8 #[.pointer (some ⟨p, 0, none⟩), .int .i64 b] w fun e w' => e = .returned (.int .i64 1) ∧ w = w' := by
  obtain ⟨g, ad, h⟩ := h
  have FD := Lib.hid (find_no B w p g n ad f h b h1 h2 hf)
  clear h hf
  go_enter Tryd.func8, Tryd.ntmps8
  go_wp2_with fail
  refine FD.out.mono ?_
  rintro e w' ⟨rfl, rfl⟩
  clear FD
  go_wp2_with fail
  go_ret
  exact ⟨rfl, rfl⟩
end Go.Proofs.YtnogmgnbhcmajaaDoor
