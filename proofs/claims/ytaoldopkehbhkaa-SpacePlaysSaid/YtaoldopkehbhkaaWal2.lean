/-
  A log in memory beside its disk (LogIs, LD), and the contracts of its calls that read alone: total, taken, Room, First, Last, Synced, sector, check, good, Need.
-/
import Derived.Test.YtaoldopkehbhkaaWal1
import Derived.BigQuiet
import Derived.Deep.QuietTactic
namespace Go.Proofs.Ytaoldopkehbhkaa
open Go.RowKit

namespace Wal
/-- What a log knows. -/
structure LS where
  frm : Nat
  ring : Nat
  start : Nat
  first : Nat
  synced : Nat
  needs : List Nat
  dead : Bool
def LS.last (s : LS) : Int := (s.first : Int) + s.needs.length - 1
def LS.room (s : LS) : Int := (s.ring : Int) - (s.needs.sum : Nat)
/-- How many sectors a batch needs. -/
def bodyLen (b : List (List Nat)) : Nat := (b.map fun r => 4 + r.length).sum
def need (b : List (List Nat)) : Nat := (16 + bodyLen b + 511) / 512
def good (b : List (List Nat)) : Bool := b.all (fun r => decide (r.length ≤ 600)) && decide (1 ≤ b.length) && decide (b.length ≤ 1024)
end Wal
open Wal

def needsV (l : List Nat) : List Value := l.map fun n : Nat => .int .i64 (n : Int)
theorem needsV_length (l : List Nat) : (needsV l).length = l.length := by simp [needsV]

/-- A log in block b, on the disk at d; vn is its row of needs. -/
structure LogIs (w : World) (b d : Nat) (vn : Value) (s : LS) : Prop where
  c0 : w.cell? ⟨b, 0, none⟩ = some (.pointer (some ⟨d, 0, none⟩))
  c1 : w.cell? ⟨b, 1, none⟩ = some (.int .i64 (s.frm : Int))
  c2 : w.cell? ⟨b, 2, none⟩ = some (.int .i64 (s.ring : Int))
  c3 : w.cell? ⟨b, 3, none⟩ = some (.int .i64 (s.start : Int))
  c4 : w.cell? ⟨b, 4, none⟩ = some (.int .i64 (s.first : Int))
  c5 : w.cell? ⟨b, 5, none⟩ = some (.int .i64 (s.synced : Int))
  c6 : w.cell? ⟨b, 6, none⟩ = some vn
  c7 : w.cell? ⟨b, 7, none⟩ = some (.bool s.dead)
  tab : Fit w b
  row : SRow w 3 1 vn s.needs.length (needsV s.needs)
  far : ∀ g, vn.ownBlock = some g → g ≠ b

def logFoot (b : Nat) (vn : Value) : List Nat := b :: vn.ownBlock.toList
theorem mem_logFoot {b x : Nat} {vn : Value} : x ∈ logFoot b vn ↔ x = b ∨ vn.ownBlock = some x := by
  simp only [logFoot, List.mem_cons, Option.mem_toList]

/-- A log on the blocks G beside its disk on the blocks F. -/
structure LD (w : World) (b : Nat) (G : List Nat) (s : LS) (d : Nat) (F : List Nat) (m : Dsk.DM) : Prop where
  log : ∃ vn, LogIs w b d vn s ∧ G = logFoot b vn
  disk : DiskAt w d F m
  apart : ∀ x ∈ G, x ∉ F

section
variable {w w' : World} {b d : Nat} {vn : Value} {s : LS} {G F H : List Nat} {m : Dsk.DM}
theorem LogIs.lt (h : LogIs w b d vn s) : b < w.heap.size := h.tab.lt
theorem LogIs.foot_lt (h : LogIs w b d vn s) : ∀ x ∈ logFoot b vn, x < w.heap.size := fun x hx => by
  rcases mem_logFoot.1 hx with rfl | hx
  · exact h.lt
  · exact h.row.lt x hx
theorem LogIs.only (h : LogIs w b d vn s) (k : Only H w w') (hH : ∀ x ∈ logFoot b vn, x ∉ H) : LogIs w' b d vn s := by
  have hb := hH b (by simp [logFoot])
  have hc : ∀ i, w'.cell? ⟨b, i, none⟩ = w.cell? ⟨b, i, none⟩ := fun i => k.cell (p := ⟨b, i, none⟩) h.lt hb
  have hf : ∀ i, w'.frozen? ⟨b, i, none⟩ = w.frozen? ⟨b, i, none⟩ := fun i => k.frozen (p := ⟨b, i, none⟩) h.lt hb
  exact ⟨(hc 0).trans h.c0, (hc 1).trans h.c1, (hc 2).trans h.c2, (hc 3).trans h.c3, (hc 4).trans h.c4, (hc 5).trans h.c5, (hc 6).trans h.c6, (hc 7).trans h.c7,
    h.tab.far k.size (fun i _ => hc i) hf, h.row.only k (fun g hg => hH g (mem_logFoot.2 (.inr hg))), h.far⟩
/-- A sum was asked of the log's table. -/
theorem LogIs.summed (h : LogIs w b d vn s) (k : TabOnly b w w') (ht : Fit w' b) : LogIs w' b d vn s :=
  ⟨(k.cells 0 (by omega)).trans h.c0, (k.cells 1 (by omega)).trans h.c1, (k.cells 2 (by omega)).trans h.c2, (k.cells 3 (by omega)).trans h.c3, (k.cells 4 (by omega)).trans h.c4, (k.cells 5 (by omega)).trans h.c5,
    (k.cells 6 (by omega)).trans h.c6, (k.cells 7 (by omega)).trans h.c7, ht, h.row.only k.only (fun g hg => by simpa using h.far g hg), h.far⟩
theorem LD.only (h : LD w b G s d F m) (k : Only H w w') (hG : ∀ x ∈ G, x ∉ H) (hF : ∀ x ∈ F, x ∉ H) : LD w' b G s d F m := by
  obtain ⟨vn, hl, rfl⟩ := h.log
  exact ⟨⟨vn, hl.only k hG, rfl⟩, h.disk.only k hF, h.apart⟩
theorem LD.under (h : LD w b G s d F m) (k : Below w.heap.size w w') : LD w' b G s d F m := h.only (Only.of_below (F := []) k) (fun _ _ hx => by cases hx) (fun _ _ hx => by cases hx)
theorem LD.drew (h : LD w b G s d F m) : LD w.drew b G s d F m := h.under (Below.refl _ _).drew
theorem LD.drewN (h : LD w b G s d F m) (n : Nat) : LD (w.drewN n) b G s d F m := h.only ((Only.refl [] w).drewN n) (fun _ _ hx => by cases hx) (fun _ _ hx => by cases hx)
theorem LD.alloc (h : LD w b G s d F m) (o : Obj) : LD (w.alloc o) b G s d F m := h.under ((Below.refl _ _).alloc (Nat.le_refl _) o)
theorem LD.glt (h : LD w b G s d F m) : ∀ x ∈ G, x < w.heap.size := by
  obtain ⟨vn, hl, rfl⟩ := h.log
  exact hl.foot_lt
theorem LD.flt (h : LD w b G s d F m) : ∀ x ∈ F, x < w.heap.size := h.disk.lt
theorem LD.mem (h : LD w b G s d F m) : b ∈ G := by
  obtain ⟨vn, hl, rfl⟩ := h.log
  simp [logFoot]
theorem LD.blt (h : LD w b G s d F m) : b < w.heap.size := h.glt b h.mem
end

theorem sum_take_succ (l : List Nat) {k : Nat} (hk : k < l.length) : (l.take (k + 1)).sum = (l.take k).sum + l[k] := by
  rw [List.take_succ_eq_append_getElem hk, List.sum_append]
  simp
theorem sum_take_le (l : List Nat) (k : Nat) : (l.take k).sum ≤ l.sum := by
  conv => rhs; rw [← List.take_append_drop k l, List.sum_append]
  omega

end Go.Proofs.Ytaoldopkehbhkaa
