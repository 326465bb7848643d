/-
  A store in memory (btree.Mem): where it lies (MemAt), what its calls leave alone (Kp), and the contract of find.
-/
import Derived.Test.YtnogmgnbhcmajaaDoorRows
import Derived.Test.YtnogmgnbhcmajaaDoorQBase
import Derived.WalkKit
import Derived.WalkSpells
import Derived.WalkLawsBesides
import Derived.Lib.Hide
import Derived.Outline
import Derived.Lib.LazyBuf
import Derived.Laws.MakeOwn
import Derived.BigQuiet
import Derived.Deep.QuietTactic
namespace Go.Proofs.YtnogmgnbhcmajaaDoor
open Go.RowKit

/-- What stands on a block: its bytes; whether it is held. -/
abbrev KB := List Nat × Bool
def blkC (k : KB) : Array Value := (k.1.map u8v ++ [Value.bool k.2]).toArray
def ptrC (ad : Nat → Nat) (f : Nat → Option KB) (i : Nat) : Value := match f i with
  | none => .pointer none
  | some _ => .pointer (some ⟨ad i, 0, none⟩)
def rowC (n : Nat) (ad : Nat → Nat) (f : Nat → Option KB) : Array Value := ((List.range n).map (ptrC ad f)).toArray
structure MemIs (B : Nat) (w : World) (p g n : Nat) (ad : Nat → Nat) (f : Nat → Option KB) : Prop where
  blk : Held w p 54 #[.slice (some ⟨g, 0, none⟩) n n]
  row : Held w g 56 (rowC n ad f)
  each : ∀ i k, f i = some k → i < n ∧ Held w (ad i) 59 (blkC k) ∧ k.1.length = 512 ∧ (∀ x ∈ k.1, x < 256) ∧ B ≤ ad i
  inj : ∀ i j, f i ≠ none → f j ≠ none → ad i = ad j → i = j
  base : B ≤ p ∧ B ≤ g
  small : n ≤ 4096
/-- In w a store of n blocks lies at block p, its parts from B on; f tells what is taken. -/
def MemAt (B : Nat) (w : World) (p n : Nat) (f : Nat → Option KB) : Prop := ∃ g ad, MemIs B w p g n ad f
/-- A block of no store. -/
def Far (B : Nat) (w : World) (k : Nat) : Prop := k < B ∨ ∀ cs t m, w.heap[k]? = some (.cells cs t m) → t ≠ 56 ∧ t ≠ 59
/-- Of what was there only blocks of stores from B on have turned. -/
structure Kp (B : Nat) (w w' : World) : Prop where
  os : w'.os = w.os
  tape : w'.tape = w.tape
  output : w'.output = w.output
  size : w.heap.size ≤ w'.heap.size
  block : ∀ k, k < w.heap.size → Far B w k → w'.heap[k]? = w.heap[k]?
section
variable {B : Nat} {w w' w'' : World} {p g n : Nat} {ad : Nat → Nat} {f : Nat → Option KB}
theorem Far.keep {k : Nat} (h : Far B w k) (e : w'.heap[k]? = w.heap[k]?) : Far B w' k := h.imp id (fun h cs t m hh => h cs t m (by rw [← e]; exact hh))
theorem Kp.refl (B : Nat) (w : World) : Kp B w w := ⟨rfl, rfl, rfl, Nat.le_refl _, fun _ _ _ => rfl⟩
theorem Kp.trans (h : Kp B w w') (k : Kp B w' w'') : Kp B w w'' := ⟨k.os.trans h.os, k.tape.trans h.tape, k.output.trans h.output, Nat.le_trans h.size k.size, fun i hi hf => by
  have e := h.block i hi hf
  exact (k.block i (Nat.lt_of_lt_of_le hi h.size) (hf.keep e)).trans e⟩
theorem Kp.under (h : Below w.heap.size w w') : Kp B w w' := ⟨h.os, h.tape, h.output, h.size, fun i hi _ => h.block i hi⟩
theorem Kp.below (h : Kp B w w') (hB : B ≤ w.heap.size) : Below B w w' := ⟨h.os, h.tape, h.output, h.size, fun i hi => h.block i (by omega) (.inl hi)⟩
theorem Kp.held {q : Nat} {t : TypeId} {cs : Array Value} (h : Kp B w w') (k : Held w q t cs) (h1 : t ≠ 56) (h2 : t ≠ 59) : Held w' q t cs :=
  (h.block q k.lt (.inr fun cs' t' m' hh => by
    have e := k.symm.trans hh
    injection e with e
    injection e with _ e2 _
    subst e2
    exact ⟨h1, h2⟩)).trans k
theorem Kp.row {base : Nat} {e : TypeId} {size : Nat} {v : Value} {m : Nat} {xs : List Value} (h : Kp B w w') (ho : w.ownsRow base e size v m xs) (h1 : e ≠ 56) (h2 : e ≠ 59) : w'.ownsRow base e size v m xs := by
  refine ⟨ho.1, ho.2.imp id fun ⟨g, cap, cur, a1, a2, a3, r⟩ => ⟨g, cap, cur, a1, a2, ?_, r⟩⟩
  exact h.held (t := e) a3 h1 h2
theorem MemIs.under (h : MemIs B w p g n ad f) (k : Below w.heap.size w w') : MemIs B w' p g n ad f := by
  have e : ∀ {q t cs}, Held w q t cs → Held w' q t cs := fun hh => hh.below k hh.lt
  exact ⟨e h.blk, e h.row, fun i x hx => by
    obtain ⟨a1, a2, a3⟩ := h.each i x hx
    exact ⟨a1, e a2, a3⟩, h.inj, h.base, h.small⟩
theorem MemAt.under (h : MemAt B w p n f) (k : Below w.heap.size w w') : MemAt B w' p n f := by
  obtain ⟨g, ad, h⟩ := h
  exact ⟨g, ad, h.under k⟩
theorem MemIs.drew (h : MemIs B w p g n ad f) : MemIs B w.drew p g n ad f := h.under ⟨rfl, rfl, rfl, Nat.le_refl _, fun _ _ => rfl⟩
theorem rowC_at (n : Nat) (ad : Nat → Nat) (f : Nat → Option KB) (i : Nat) (h : i < n) : (rowC n ad f)[i]? = some (ptrC ad f i) := by
  unfold rowC
  rw [List.getElem?_toArray, List.getElem?_map, List.getElem?_range h]
  rfl
theorem MemIs.ptr (h : MemIs B w p g n ad f) (i : Nat) (hi : i < n) : w.cell? ⟨g, i, none⟩ = some (ptrC ad f i) := by rw [h.row.cell, rowC_at n ad f i hi]
theorem blkC_at (k : KB) (i : Nat) (h : i < k.1.length) : (blkC k)[i]? = some (u8v (k.1.getD i 0)) := by
  unfold blkC
  rw [List.getElem?_toArray, List.getElem?_append_left (by simpa using h), List.getElem?_map, List.getElem?_eq_getElem h, List.getD_eq_getElem?_getD, List.getElem?_eq_getElem h]
  rfl
theorem blkC_held (k : KB) (h : k.1.length = 512) : (blkC k)[512]? = some (.bool k.2) := by
  unfold blkC
  rw [List.getElem?_toArray, List.getElem?_append_right (by simp [h])]
  simp [h]
end

set_option maxRecDepth 100000 in
/-- find: a block that is taken. -/
theorem find_yes (B : Nat) (w : World) (p g n : Nat) (ad : Nat → Nat) (f : Nat → Option KB) (h : MemIs B w p g n ad f) (i : Nat) (k : KB) (hf : f i = some k) :
    Calls Tryd.prog 18 #[.pointer (some ⟨p, 0, none⟩), .int .i64 ((i : Int) + 1)] w fun e w' => e = .returned (.tuple #[.pointer (some ⟨ad i, 0, none⟩), .int .i64 0]) ∧ w = w' := by
  have hi := (h.each i k hf).1
  have hn := h.small
  have c0 : w.cell? ⟨p, 0, none⟩ = some (.slice (some ⟨g, 0, none⟩) n n) := h.blk.cell 0
  have c1 : w.cell? ⟨g, i, none⟩ = some (.pointer (some ⟨ad i, 0, none⟩)) := by rw [h.ptr i hi]; unfold ptrC; rw [hf]
  have z1 : ¬ (i : Int) + 1 < 1 := by omega
  have z2 : ¬ (n : Int) < (i : Int) + 1 := by omega
  have z3 : (i : Int) + 1 - 1 = (i : Int) := by omega
  have z4 : (i : Int) < (n : Int) := by omega
  clear h hf
  go_enter Tryd.func18, Tryd.ntmps18
  go_wp2
  go_ret2
  exact ⟨rfl, rfl⟩
set_option maxRecDepth 100000 in
/-- find: none. -/
theorem find_no (B : Nat) (w : World) (p g n : Nat) (ad : Nat → Nat) (f : Nat → Option KB) (h : MemIs B w p g n ad f) (b : Int) (h1 : -9223372036854775808 ≤ b) (h2 : b ≤ 9223372036854775807) (hf : ∀ i : Nat, b = (i : Int) + 1 → f i = none) :
    Calls Tryd.prog 18 #[.pointer (some ⟨p, 0, none⟩), .int .i64 b] w fun e w' => e = .returned (.tuple #[.pointer none, .int .i64 1]) ∧ w = w' := by
  have hn := h.small
  have c0 : w.cell? ⟨p, 0, none⟩ = some (.slice (some ⟨g, 0, none⟩) n n) := h.blk.cell 0
  by_cases d1 : b < 1
  · clear h hf
    go_enter Tryd.func18, Tryd.ntmps18
    go_wp2
    go_ret2
    exact ⟨rfl, rfl⟩
  by_cases d2 : (n : Int) < b
  · clear h hf
    go_enter Tryd.func18, Tryd.ntmps18
    go_wp2
    go_ret2
    exact ⟨rfl, rfl⟩
  obtain ⟨i, rfl⟩ : ∃ i : Nat, b = (i : Int) + 1 := ⟨(b - 1).toNat, by omega⟩
  have hi : i < n := by omega
  have c1 : w.cell? ⟨g, i, none⟩ = some (.pointer none) := by rw [h.ptr i hi]; unfold ptrC; rw [hf i rfl]
  have z3 : (i : Int) + 1 - 1 = (i : Int) := by omega
  have z4 : (i : Int) < (n : Int) := by omega
  clear h hf
  go_enter Tryd.func18, Tryd.ntmps18
  go_wp2
  go_ret2
  exact ⟨rfl, rfl⟩
end Go.Proofs.YtnogmgnbhcmajaaDoor
