/-
  Layer 3, wal: slices that lie anywhere in a block (SRow), a log in memory (LogIs), and the contracts of its small calls. · A log in memory beside its disk (LogIs, LD), and the contracts of its calls that read alone: total, taken, Room, First, Last, Synced, sector, check, good, Need. · wal: the contracts of sector, check, good, Need, alive, write, flush. · wal: the contracts of Need, alive, write, flush.
-/
import Derived.Test.YtkajneeihhobhaaGreatMTab
import Derived.Test.YtkajneeihhobhaaGreatMDisk
import Derived.ArgAppend
import Derived.Laws.IdiomCopy
import Derived.BigQuiet
import Derived.Deep.QuietTactic
namespace Go.Proofs.YtkajneeihhobhaaGreat
open Go.RowKit

/-- A slice that lies somewhere in a block of cells none of which is frozen. -/
def SRow (w : World) (e : TypeId) (size : Nat) (v : Value) (n : Nat) (xs : List Value) : Prop :=
  xs.length = n * size ∧
  ((v = .slice none 0 0 ∧ n = 0) ∨
   ∃ g off cap cur mk, v = .slice (some ⟨g, off, none⟩) n cap ∧ w.heap[g]? = some (.cells cur e mk) ∧ (mk = (0, 0) ∨ cur.size ≤ mk.1) ∧ n ≤ cap ∧ cap ≤ maxLen ∧ off + cap * size ≤ cur.size ∧ (cur.toList.drop off).take (n * size) = xs)

section
variable {w w' : World} {e : TypeId} {size : Nat} {v : Value} {n : Nat} {xs : List Value}
theorem SRow.nil (w : World) (e : TypeId) (size : Nat) : SRow w e size (.slice none 0 0) 0 [] := ⟨by simp, .inl ⟨rfl, rfl⟩⟩
theorem SRow.of_own {base : Nat} (h : w.ownsRow base e size v n xs) : SRow w e size v n xs := by
  refine ⟨h.1, ?_⟩
  rcases h.2 with h0 | ⟨g, cap, cur, rfl, _, hg, h1, h2, h3, h4⟩
  · exact .inl h0
  · exact .inr ⟨g, 0, cap, cur, (0, 0), rfl, hg, .inl rfl, h1, h2, by omega, by simpa using h4⟩
theorem SRow.only {F : List Nat} (h : SRow w e size v n xs) (k : Only F w w') (hn : ∀ g, v.ownBlock = some g → g ∉ F) : SRow w' e size v n xs := by
  refine ⟨h.1, ?_⟩
  rcases h.2 with h0 | ⟨g, off, cap, cur, mk, rfl, hg, r⟩
  · exact .inl h0
  · exact .inr ⟨g, off, cap, cur, mk, rfl, k.heap hg (hn g rfl), r⟩
theorem SRow.lt (h : SRow w e size v n xs) : ∀ g, v.ownBlock = some g → g < w.heap.size := by
  intro g hg
  rcases h.2 with ⟨rfl, _⟩ | ⟨g', off, cap, cur, mk, rfl, hh, _⟩
  · cases hg
  · have e1 : g' = g := by simpa [Value.ownBlock] using hg
    subst e1
    exact (Array.getElem?_eq_some_iff.1 hh).1
theorem SRow.form (h : SRow w e size v n xs) : ∃ A c, v = .slice A n c := by
  rcases h.2 with ⟨rfl, rfl⟩ | ⟨g, off, cap, cur, mk, rfl, _⟩
  · exact ⟨none, 0, rfl⟩
  · exact ⟨_, cap, rfl⟩
theorem SRow.ty (h : SRow w e size v n xs) : ∀ g, v.ownBlock = some g → ∃ cur mk, w.heap[g]? = some (.cells cur e mk) := by
  intro g hg
  rcases h.2 with ⟨rfl, _⟩ | ⟨g', off, cap, cur, mk, rfl, hh, _⟩
  · cases hg
  · have e1 : g' = g := by simpa [Value.ownBlock] using hg
    subst e1
    exact ⟨cur, mk, hh⟩
/-- The cells of the slice. -/
theorem SRow.at_ (h : SRow w e size v n xs) {A : Option Addr} {c : Nat} (hv : v = .slice A n c) (hn : 0 < n) : ∃ g off, A = some ⟨g, off, none⟩ ∧ g < w.heap.size ∧ ∀ j u, xs[j]? = some u → w.cell? ⟨g, off + j, none⟩ = some u := by
  rcases h.2 with ⟨rfl, h0⟩ | ⟨g, off, cap, cur, mk, rfl, hh, _, h1, h2, h3, h4⟩
  · omega
  · injection hv with hv _ _
    subst hv
    refine ⟨g, off, rfl, (Array.getElem?_eq_some_iff.1 hh).1, fun j u hu => ?_⟩
    have hj : j < n * size := by
      rcases Nat.lt_or_ge j xs.length with h' | h'
      · rw [h.1] at h'; exact h'
      · rw [List.getElem?_eq_none h'] at hu; cases hu
    rw [cell_of_row w g (off + j) cur e mk hh, ← hu, ← h4, List.getElem?_take, if_pos hj, List.getElem?_drop, ← Array.getElem?_toList]
theorem frozen_far {w : World} {g : Nat} {cur : Array Value} {e : TypeId} {mk : Nat × Nat} (hh : w.heap[g]? = some (.cells cur e mk)) (hm : mk = (0, 0) ∨ cur.size ≤ mk.1) {i : Nat} (hi : i < cur.size) : w.frozen? ⟨g, i, none⟩ = false := by
  rcases hm with rfl | hm
  · exact frozen_of_row w g i cur e hh
  · obtain ⟨a, b⟩ := mk
    simp only at hm
    simp [World.frozen?, hh]
    omega
theorem SRow.free (h : SRow w e size v n xs) {A : Option Addr} {c : Nat} (hv : v = .slice A n c) (_hn : 0 < n) : ∃ g off, A = some ⟨g, off, none⟩ ∧ ∀ j, j < n * size → w.frozen? ⟨g, off + j, none⟩ = false := by
  rcases h.2 with ⟨rfl, h0⟩ | ⟨g, off, cap, cur, mk, rfl, hh, hm, h1, h2, h3, h4⟩
  · omega
  · injection hv with hv _ _
    subst hv
    have := Nat.mul_le_mul_right size h1
    exact ⟨g, off, rfl, fun j hj => frozen_far hh hm (by omega)⟩
/-- s[k:], s[:k]. -/
theorem SRow.tail {g off cap k : Nat} (h : SRow w e size (.slice (some ⟨g, off, none⟩) n cap) n xs) (hk : k ≤ n) : SRow w e size (.slice (some ⟨g, off + k * size, none⟩) (n - k) (cap - k)) (n - k) (xs.drop (k * size)) := by
  have hl : (n - k) * size = n * size - k * size := Nat.sub_mul n k size
  refine ⟨by rw [List.length_drop, h.1, hl], ?_⟩
  rcases h.2 with ⟨h0, _⟩ | ⟨g', off', cap', cur, mk, hv, hh, hm, h1, h2, h3, h4⟩
  · cases h0
  · injection hv with hv _ hv3
    injection hv with hv
    injection hv with hv1 hv2 _
    subst hv1 hv2 hv3
    have hkm : k * size ≤ n * size := Nat.mul_le_mul_right _ hk
    have hcm : (cap - k) * size = cap * size - k * size := Nat.sub_mul cap k size
    have hcm2 : k * size ≤ cap * size := Nat.mul_le_mul_right _ (by omega)
    refine .inr ⟨g, off + k * size, cap - k, cur, mk, rfl, hh, hm, by omega, by omega, by rw [hcm]; omega, ?_⟩
    rw [← h4, List.drop_take, List.drop_drop, hl]
theorem SRow.tail' {g off cap : Nat} (h : SRow w e size (.slice (some ⟨g, off, none⟩) n cap) n xs) : SRow w e size (.slice (some ⟨g, off, none⟩) 0 0) 0 [] := by
  refine ⟨by simp, ?_⟩
  rcases h.2 with ⟨h0, _⟩ | ⟨g', off', cap', cur, mk, hv, hh, hm, h1, h2, h3, h4⟩
  · cases h0
  · injection hv with hv _ hv3
    injection hv with hv
    injection hv with hv1 hv2 _
    subst hv1 hv2 hv3
    exact .inr ⟨g, off, 0, cur, mk, rfl, hh, hm, by omega, by omega, by omega, by simp⟩
theorem SRow.head {A : Option Addr} {cap k : Nat} (h : SRow w e size (.slice A n cap) n xs) (hk : k ≤ n) : SRow w e size (.slice A k cap) k (xs.take (k * size)) := by
  have hkm : k * size ≤ n * size := Nat.mul_le_mul_right _ hk
  refine ⟨by rw [List.length_take, h.1]; omega, ?_⟩
  rcases h.2 with ⟨h0, h1⟩ | ⟨g', off', cap', cur, mk, hv, hh, hm, h1, h2, h3, h4⟩
  · injection h0 with h0 _ h2
    subst h0 h2
    obtain rfl : k = 0 := by omega
    exact .inl ⟨rfl, rfl⟩
  · injection hv with hv _ hv3
    subst hv hv3
    exact .inr ⟨g', off', cap, cur, mk, rfl, hh, hm, by omega, h2, h3, by rw [← h4, List.take_take, Nat.min_eq_left hkm]⟩
end

/-- Cells written into a block, from one place on. -/
theorem heap_setCells (g : Nat) (e : TypeId) (mk : Nat × Nat) : ∀ (vs : List Value) (o : Nat) (w : World) (cur : Array Value), w.heap[g]? = some (.cells cur e mk) → o + vs.length ≤ cur.size →
    ∃ cur', (w.setCells g o vs).heap[g]? = some (.cells cur' e mk) ∧ cur'.size = cur.size ∧ cur'.toList = cur.toList.take o ++ vs ++ cur.toList.drop (o + vs.length)
  | [], o, w, cur, h, _ => ⟨cur, h, rfl, by simp⟩
  | v :: vs, o, w, cur, h, hl => by
    have h1 : (w.setCell ⟨g, o, none⟩ v).heap[g]? = some (.cells (cur.setIfInBounds o v) e mk) := by
      rw [setCell_eq_setRow w g o cur e mk v h]
      exact setRow_heap w g cur _ e _ h
    obtain ⟨cur', h2, h3, h4⟩ := heap_setCells g e mk vs (o + 1) (w.setCell ⟨g, o, none⟩ v) (cur.setIfInBounds o v) h1 (by simp at hl ⊢; omega)
    refine ⟨cur', h2, by rw [h3]; simp, ?_⟩
    rw [h4]
    have ho : o < cur.toList.length := by simp at hl ⊢; omega
    rw [Array.toList_setIfInBounds, List.take_set, List.drop_set, if_pos (by omega), List.take_succ_eq_append_getElem ho, List.set_append_right _ _ (by simp; omega)]
    have e1 : o - (cur.toList.take o).length = 0 := by simp; omega
    rw [e1]
    simp only [List.set_cons_zero, List.length_cons, List.append_assoc, List.cons_append, List.nil_append]
    rw [show o + 1 + vs.length = o + (vs.length + 1) by omega]
theorem heap_setCells_far (g : Nat) : ∀ (vs : List Value) (o : Nat) (w : World) (k : Nat), k ≠ g → (w.setCells g o vs).heap[k]? = w.heap[k]?
  | [], _, _, _, _ => rfl
  | v :: vs, o, w, k, h => (heap_setCells_far g vs (o + 1) (w.setCell ⟨g, o, none⟩ v) k h).trans (Below.heap_setCell _ _ _ _ h)
theorem setCells_grown (g : Nat) : ∀ (vs : List Value) (o : Nat) (w : World), w.grownBy (w.setCells g o vs) (some g)
  | [], _, w => World.grownBy.refl w _
  | v :: vs, o, w => by
    have h := setCells_grown g vs (o + 1) (w.setCell ⟨g, o, none⟩ v)
    have hz : w.heap.size ≤ ((w.setCell ⟨g, o, none⟩ v).setCells g (o + 1) vs).heap.size := by
      have := h.size
      rwa [World.size_setCell] at this
    exact ⟨h.os, h.tape, h.output, hz, fun k hk hne => (heap_setCells_far g (v :: vs) o w k (fun e => hne (by rw [e])))⟩

/-- append(v, x...) for a slice that lies anywhere. -/
theorem run_append_srow {P : Program} (w : World) (t ty e : TypeId) (i : TypeInfo) (z : Value) (size bytes : Nat) (ht : P.underlying t = some (.slice e)) (hi : P.info? e = some i) (hz : i.zero = some z)
    (hsize : i.size = size) (hby : i.bytes = bytes) (hzs : z.cells.size = size) (hsz : 0 < size)
    (v : Value) (n : Nat) (xs : List Value) (hr : SRow w e size v n xs)
    (a : Addr) (m c : Nat) (news : List Value) (hl : news.length = m * size) (hnews : ∀ j u, news[j]? = some u → w.cell? (a.add j) = some u) (h1 : ∀ u ∈ news, u.oneCell' = true)
    (h63 : n + m ≤ maxLen) (hbytes : (n + m) * bytes ≤ 140737488355328) :
    ∃ v' w', (Builtin.append_ #[t, t] ty #[v, .slice (some a) m c]).run P w = .ok v' w' ∧ SRow w' e size v' (n + m) (xs ++ news) ∧ w.grownBy w' v.ownBlock ∧ (∀ x, v'.ownBlock = some x → v.ownBlock = some x ∨ w.heap.size ≤ x) := by
  subst hsize
  subst hby
  rcases hr.2 with ⟨rfl, rfl⟩ | ⟨g, off, cap, cur, mk, rfl, hh, hmk, hnc, hcm, hcs, htake⟩
  · have hx : xs = [] := List.eq_nil_of_length_eq_zero (by simpa using hr.1)
    subst hx
    obtain ⟨v', w', hrun, h2, h3, _, h5⟩ := run_append_own_at (P := P) w 0 t ty e i z i.size i.bytes ht hi hz rfl rfl hzs hsz _ 0 [] (World.ownsRow_nil w 0 e i.size) a m c news hl hnews h1 h63 hbytes (Nat.zero_le _)
    exact ⟨v', w', hrun, .of_own h2, h3, fun x hx => by
      rcases h5 with h5 | h5
      · rw [h5] at hx; exact .inl hx
      · rw [h5] at hx; injection hx with hx; exact .inr (by omega)⟩
  · have holds : ∀ j u, xs[j]? = some u → w.cell? ((⟨g, off, none⟩ : Addr).add j) = some u := by
      obtain ⟨_, _, hA, _, hc⟩ | h0 := (Nat.eq_zero_or_pos n).symm.imp (fun h => hr.at_ rfl h) id
      · injection hA with hA
        injection hA with e1 e2 _
        subst e1 e2
        intro j u hu
        rw [WideShapes.add_plain]
        exact hc j u hu
      · intro j u hu
        have : xs = [] := List.eq_nil_of_length_eq_zero (by rw [hr.1, h0]; simp)
        rw [this] at hu
        cases hu
    by_cases hroom : n + m ≤ cap
    · have hfit : off + n * i.size + news.length ≤ cur.size := by
        have := Nat.mul_le_mul_right i.size hroom
        rw [Nat.add_mul] at this
        omega
      have hrun := run_append_room_cells (P := P) w t ty e i ht hi g off n cap a m c news hl hnews h1 hroom (fun j hj => by rw [cell_of_row w g _ cur e mk hh, Array.getElem?_eq_getElem (by omega)]; rfl) (fun j hj => frozen_far hh hmk (by omega))
      obtain ⟨cur', k1, k2, k3⟩ := heap_setCells g e mk news (off + n * i.size) w cur hh hfit
      refine ⟨_, _, hrun, ⟨by rw [List.length_append, hr.1, hl, Nat.add_mul], .inr ⟨g, off, cap, cur', mk, rfl, k1, by rw [k2]; exact hmk, hroom, hcm, by omega, ?_⟩⟩, setCells_grown g news _ w, fun _ hx => .inl hx⟩
      have hlen : (cur.toList.take (off + n * i.size)).length = off + n * i.size := by rw [List.length_take, Array.length_toList]; omega
      have hx : (cur.toList.take (off + n * i.size)).drop off = xs := by rw [List.drop_take, Nat.add_sub_cancel_left]; exact htake
      rw [k3, List.append_assoc, List.drop_append_of_le_length (by omega), hx, ← List.append_assoc, List.take_left' (by rw [List.length_append, hr.1, hl, Nat.add_mul])]
    · obtain ⟨v', w', hrun, h2, h3⟩ := run_append_arg_grows (P := P) w t ty e i z i.size i.bytes ht hi hz rfl rfl hzs hsz ⟨g, off, none⟩ n cap xs hr.1 holds a m c news hl hnews (by omega) h63 hbytes
      refine ⟨v', w', hrun, .of_own h2, ⟨h3.os, h3.tape, h3.output, h3.size, fun k hk _ => h3.block k hk (by simp)⟩, ?_⟩
      exact fun x hx => .inr (h2.lt x hx).1
end Go.Proofs.YtkajneeihhobhaaGreat

namespace Go.Proofs.YtkajneeihhobhaaGreat
open Go.RowKit

namespace Wal
/-- What a log knows. -/
structure LS where
  frm : Nat
  ring : Nat
  start : Nat
  first : Nat
  synced : Nat
  needs : List Nat
  dead : Bool
def LS.last (s : LS) : Int := (s.first : Int) + s.needs.length - 1
def LS.room (s : LS) : Int := (s.ring : Int) - (s.needs.sum : Nat)
/-- How many sectors a batch needs. -/
def bodyLen (b : List (List Nat)) : Nat := (b.map fun r => 4 + r.length).sum
def need (b : List (List Nat)) : Nat := (16 + bodyLen b + 511) / 512
def good (b : List (List Nat)) : Bool := b.all (fun r => decide (r.length ≤ 600)) && decide (1 ≤ b.length) && decide (b.length ≤ 1024)
end Wal
open Wal

def needsV (l : List Nat) : List Value := l.map fun n : Nat => .int .i64 (n : Int)
theorem needsV_length (l : List Nat) : (needsV l).length = l.length := by simp [needsV]

/-- A log in block b, on the disk at d; vn is its row of needs. -/
structure LogIs (w : World) (b d : Nat) (vn : Value) (s : LS) : Prop where
  c0 : w.cell? ⟨b, 0, none⟩ = some (.pointer (some ⟨d, 0, none⟩))
  c1 : w.cell? ⟨b, 1, none⟩ = some (.int .i64 (s.frm : Int))
  c2 : w.cell? ⟨b, 2, none⟩ = some (.int .i64 (s.ring : Int))
  c3 : w.cell? ⟨b, 3, none⟩ = some (.int .i64 (s.start : Int))
  c4 : w.cell? ⟨b, 4, none⟩ = some (.int .i64 (s.first : Int))
  c5 : w.cell? ⟨b, 5, none⟩ = some (.int .i64 (s.synced : Int))
  c6 : w.cell? ⟨b, 6, none⟩ = some vn
  c7 : w.cell? ⟨b, 7, none⟩ = some (.bool s.dead)
  tab : Fit w b
  row : SRow w 3 1 vn s.needs.length (needsV s.needs)
  far : ∀ g, vn.ownBlock = some g → g ≠ b

def logFoot (b : Nat) (vn : Value) : List Nat := b :: vn.ownBlock.toList
theorem mem_logFoot {b x : Nat} {vn : Value} : x ∈ logFoot b vn ↔ x = b ∨ vn.ownBlock = some x := by
  simp only [logFoot, List.mem_cons, Option.mem_toList]

/-- A log on the blocks G beside its disk on the blocks F. -/
structure LD (w : World) (b : Nat) (G : List Nat) (s : LS) (d : Nat) (F : List Nat) (m : Dsk.DM) : Prop where
  log : ∃ vn, LogIs w b d vn s ∧ G = logFoot b vn
  disk : DiskAt w d F m
  apart : ∀ x ∈ G, x ∉ F

section
variable {w w' : World} {b d : Nat} {vn : Value} {s : LS} {G F H : List Nat} {m : Dsk.DM}
theorem LogIs.lt (h : LogIs w b d vn s) : b < w.heap.size := h.tab.lt
theorem LogIs.foot_lt (h : LogIs w b d vn s) : ∀ x ∈ logFoot b vn, x < w.heap.size := fun x hx => by
  rcases mem_logFoot.1 hx with rfl | hx
  · exact h.lt
  · exact h.row.lt x hx
theorem LogIs.only (h : LogIs w b d vn s) (k : Only H w w') (hH : ∀ x ∈ logFoot b vn, x ∉ H) : LogIs w' b d vn s := by
  have hb := hH b (by simp [logFoot])
  have hc : ∀ i, w'.cell? ⟨b, i, none⟩ = w.cell? ⟨b, i, none⟩ := fun i => k.cell (p := ⟨b, i, none⟩) h.lt hb
  have hf : ∀ i, w'.frozen? ⟨b, i, none⟩ = w.frozen? ⟨b, i, none⟩ := fun i => k.frozen (p := ⟨b, i, none⟩) h.lt hb
  exact ⟨(hc 0).trans h.c0, (hc 1).trans h.c1, (hc 2).trans h.c2, (hc 3).trans h.c3, (hc 4).trans h.c4, (hc 5).trans h.c5, (hc 6).trans h.c6, (hc 7).trans h.c7,
    h.tab.far k.size (fun i _ => hc i) hf, h.row.only k (fun g hg => hH g (mem_logFoot.2 (.inr hg))), h.far⟩
/-- A sum was asked of the log's table. -/
theorem LogIs.summed (h : LogIs w b d vn s) (k : TabOnly b w w') (ht : Fit w' b) : LogIs w' b d vn s :=
  ⟨(k.cells 0 (by omega)).trans h.c0, (k.cells 1 (by omega)).trans h.c1, (k.cells 2 (by omega)).trans h.c2, (k.cells 3 (by omega)).trans h.c3, (k.cells 4 (by omega)).trans h.c4, (k.cells 5 (by omega)).trans h.c5,
    (k.cells 6 (by omega)).trans h.c6, (k.cells 7 (by omega)).trans h.c7, ht, h.row.only k.only (fun g hg => by simpa using h.far g hg), h.far⟩
theorem LD.only (h : LD w b G s d F m) (k : Only H w w') (hG : ∀ x ∈ G, x ∉ H) (hF : ∀ x ∈ F, x ∉ H) : LD w' b G s d F m := by
  obtain ⟨vn, hl, rfl⟩ := h.log
  exact ⟨⟨vn, hl.only k hG, rfl⟩, h.disk.only k hF, h.apart⟩
theorem LD.under (h : LD w b G s d F m) (k : Below w.heap.size w w') : LD w' b G s d F m := h.only (Only.of_below (F := []) k) (fun _ _ hx => by cases hx) (fun _ _ hx => by cases hx)
theorem LD.drew (h : LD w b G s d F m) : LD w.drew b G s d F m := h.under (Below.refl _ _).drew
theorem LD.drewN (h : LD w b G s d F m) (n : Nat) : LD (w.drewN n) b G s d F m := h.only ((Only.refl [] w).drewN n) (fun _ _ hx => by cases hx) (fun _ _ hx => by cases hx)
theorem LD.alloc (h : LD w b G s d F m) (o : Obj) : LD (w.alloc o) b G s d F m := h.under ((Below.refl _ _).alloc (Nat.le_refl _) o)
theorem LD.glt (h : LD w b G s d F m) : ∀ x ∈ G, x < w.heap.size := by
  obtain ⟨vn, hl, rfl⟩ := h.log
  exact hl.foot_lt
theorem LD.flt (h : LD w b G s d F m) : ∀ x ∈ F, x < w.heap.size := h.disk.lt
theorem LD.mem (h : LD w b G s d F m) : b ∈ G := by
  obtain ⟨vn, hl, rfl⟩ := h.log
  simp [logFoot]
theorem LD.blt (h : LD w b G s d F m) : b < w.heap.size := h.glt b h.mem
end

theorem sum_take_succ (l : List Nat) {k : Nat} (hk : k < l.length) : (l.take (k + 1)).sum = (l.take k).sum + l[k] := by
  rw [List.take_succ_eq_append_getElem hk, List.sum_append]
  simp
theorem sum_take_le (l : List Nat) (k : Nat) : (l.take k).sum ≤ l.sum := by
  conv => rhs; rw [← List.take_append_drop k l, List.sum_append]
  omega

set_option maxHeartbeats 400000 in
theorem total_any (w : World) (v : Value) (l : List Nat) (h : SRow w 3 1 v l.length (needsV l)) (hs : l.sum ≤ 4611686018427387904) (hn : l.length ≤ 4611686018427387904) :
    Calls Tryz.prog 98 #[v] w fun e w' => e = .returned (.int .i64 (l.sum : Int)) ∧ w = w' := by
  obtain ⟨A, c, rfl⟩ := h.form
  have H := Lib.hid h
  clear h
  go_enter Tryz.func98, Tryz.ntmps98
  go_wp2
  go_loop [3, 8] (fun s i => ∃ k : Nat, k ≤ l.length ∧ i = .int .i64 k ∧ s = .int .i64 ((l.take k).sum : Nat)) (fun _ i => l.length - (intOf i).toNat)
  case atStart => exact ⟨0, by omega, rfl, by simp⟩
  case round =>
    obtain ⟨k, hk, rfl, rfl⟩ := hrel
    have h1 := sum_take_le l k
    by_cases hlt : k < l.length
    · have hS := Lib.hid (sum_take_succ l hlt)
      have h2 := sum_take_le l (k + 1)
      rw [hS.out] at h2
      obtain ⟨g, off, rfl, _, hc⟩ := H.out.at_ rfl (by omega)
      have hx := hc k (.int .i64 (l[k] : Int)) (by simp [needsV, hlt])
      clear hc
      generalize (l.take k).sum = x at *
      generalize l[k] = y at *
      go_wp2
      go_round
      case rel => exact ⟨k + 1, by omega, by go_num, by rw [hS.out]; go_num⟩
      case measure => simp [intOf]; omega
    · obtain rfl : k = l.length := by omega
      go_wp2
      go_ret
      exact ⟨rfl, rfl⟩
theorem taken_any (w : World) (b d : Nat) (vn : Value) (s : LS) (h : LogIs w b d vn s) (hs : s.needs.sum ≤ 4611686018427387904) (hn : s.needs.length ≤ 4611686018427387904) :
    Calls Tryz.prog 81 #[.pointer (some ⟨b, 0, none⟩)] w fun e w' => e = .returned (.int .i64 (s.needs.sum : Int)) ∧ w = w' := by
  have c6 := h.c6
  have T := Lib.hid (total_any w vn s.needs h.row hs hn)
  clear h hs hn
  go_enter Tryz.func81, Tryz.ntmps81
  go_wp2_with (go_at_call 98; refine T.out.mono ?_; rintro e w' ⟨rfl, rfl⟩)
  go_ret
  exact ⟨rfl, rfl⟩
theorem synced_any (w : World) (b d : Nat) (vn : Value) (s : LS) (h : LogIs w b d vn s) :
    Calls Tryz.prog 51 #[.pointer (some ⟨b, 0, none⟩)] w fun e w' => e = .returned (.int .i64 (s.synced : Int)) ∧ w = w' := by
  have c5 := h.c5
  clear h
  go_enter Tryz.func51, Tryz.ntmps51
  go_wp2
  go_ret
  exact ⟨rfl, rfl⟩
theorem last_any (w : World) (b d : Nat) (vn : Value) (s : LS) (h : LogIs w b d vn s) (h1 : s.first ≤ 2305843009213693952) (h2 : s.needs.length ≤ 2305843009213693952) :
    Calls Tryz.prog 52 #[.pointer (some ⟨b, 0, none⟩)] w fun e w' => e = .returned (.int .i64 s.last) ∧ ∃ n, w' = w.drewN n := by
  obtain ⟨A, c, rfl⟩ := h.row.form
  have c4 := h.c4
  have c6 := h.c6
  clear h
  unfold LS.last
  go_enter Tryz.func52, Tryz.ntmps52
  go_wp2
  go_quiet (fail)
  go_wp2
  go_ret
  exact ⟨rfl, _, rfl⟩
theorem room_any (w : World) (b d : Nat) (vn : Value) (s : LS) (h : LogIs w b d vn s) (hs : s.needs.sum ≤ 4611686018427387904) (hn : s.needs.length ≤ 4611686018427387904) (hr : s.ring ≤ 4611686018427387904) :
    Calls Tryz.prog 66 #[.pointer (some ⟨b, 0, none⟩)] w fun e w' => e = .returned (.int .i64 s.room) ∧ ∃ n, w' = w.drewN n := by
  have c2 := h.c2
  have T : ∀ n, Hid (Calls Tryz.prog 81 #[.pointer (some ⟨b, 0, none⟩)] (w.drewN n) fun e w' => e = .returned (.int .i64 (s.needs.sum : Int)) ∧ w' = w.drewN n) := fun n =>
    Lib.hid ((taken_any (w.drewN n) b d vn s (h.only ((Only.refl [] w).drewN n) (fun _ _ hx => by cases hx)) hs hn).mono fun _ _ ⟨h1, h2⟩ => ⟨h1, h2.symm⟩)
  clear h
  unfold LS.room
  go_enter Tryz.func66, Tryz.ntmps66
  go_wp2
  go_quiet ((go_at_call 81; exact Calls.quiet_of_same (T _).out))
  go_wp2
  go_ret
  exact ⟨rfl, _, rfl⟩
end Go.Proofs.YtkajneeihhobhaaGreat

namespace Go.Proofs.YtkajneeihhobhaaGreat
open Go.RowKit Wal

theorem ret_i64 {a b : Int} (h : a = b) : Ending.returned (.int .i64 a) = .returned (.int .i64 b) := by rw [h]
theorem ret_bool {a b : Bool} (h : a = b) : Ending.returned (.bool a) = .returned (.bool b) := by rw [h]

/-- A slice of strings that reads as the list l. -/
def Strs (w : World) (A : Option Addr) (n : Nat) (l : List ByteArray) : Prop :=
  l.length = n ∧ (∀ s ∈ l, s.size ≤ 4611686018427387904) ∧ (0 < n → ∃ b off, A = some ⟨b, off, none⟩ ∧ b < w.heap.size ∧ ∀ i s, l[i]? = some s → w.cell? ⟨b, off + i, none⟩ = some (.string s))
theorem Strs.only {F : List Nat} {a b : World} {A : Option Addr} {n : Nat} {l : List ByteArray} (h : Only F a b) (hb : Strs a A n l) (hA : 0 < n → ∀ x, A = some x → x.block ∉ F) : Strs b A n l :=
  ⟨hb.1, hb.2.1, fun hn => by
    obtain ⟨g, off, e, hl, hc⟩ := hb.2.2 hn
    exact ⟨g, off, e, Nat.lt_of_lt_of_le hl h.size, fun i s hi => (h.cell (p := ⟨g, off + i, none⟩) hl (hA hn ⟨g, off, none⟩ e)).trans (hc i s hi)⟩⟩
theorem Strs.below {w w' : World} {A : Option Addr} {n : Nat} {l : List ByteArray} (h : Strs w A n l) (k : Below w.heap.size w w') : Strs w' A n l := Strs.only (Only.of_below (F := []) k) h (fun _ _ _ hx => by cases hx)
theorem Strs.drewN {w : World} {A : Option Addr} {n : Nat} {l : List ByteArray} (h : Strs w A n l) (k : Nat) : Strs (w.drewN k) A n l := Strs.only ((Only.refl [] w).drewN k) h (fun _ _ _ hx => by cases hx)

/-- A batch of strings, as texts. -/
def txts (l : List ByteArray) : List (List Nat) := l.map nums
theorem txts_length (l : List ByteArray) : (txts l).length = l.length := by simp [txts]
theorem txts_bytes (l : List ByteArray) : ∀ r ∈ txts l, ∀ x ∈ r, x < 256 := fun r hr => by
  obtain ⟨s, _, rfl⟩ := List.mem_map.1 hr
  exact nums_lt s

namespace Wal
def sector (s : LS) (p : Nat) : Nat := s.frm + 1 + (s.start + p) % s.ring
def checkErr (size : Nat) (frm n : Int) : Int := if frm < 0 ∨ n < 2 ∨ (size : Int) - frm < n then 1 else 0
theorem bodyLen_snoc (b : List (List Nat)) (r : List Nat) : bodyLen (b ++ [r]) = bodyLen b + (4 + r.length) := by simp [bodyLen]
theorem bodyLen_take (b : List (List Nat)) (k : Nat) : bodyLen (b.take k) ≤ bodyLen b := by
  unfold bodyLen
  rw [List.map_take]
  exact sum_take_le _ k
end Wal

set_option maxHeartbeats 400000 in
theorem sector_any (w : World) (b d : Nat) (vn : Value) (s : LS) (p : Nat) (h : LogIs w b d vn s) (hf : s.frm ≤ 4096) (hr : s.ring ≤ 4096) (hr0 : 0 < s.ring) (hs : s.start ≤ 4096) (hp : p ≤ 4611686018427387904) :
    Calls Tryz.prog 87 #[.pointer (some ⟨b, 0, none⟩), .int .i64 (p : Int)] w fun e w' => e = .returned (.int .i64 (sector s p : Nat)) ∧ ∃ n, w' = w.drewN n := by
  have c1 := h.c1
  have c2 := h.c2
  have c3 := h.c3
  clear h
  have h0 : ¬ ((s.ring : Int) = 0) := by omega
  have h1 : ((s.ring : Int) == 0) = false := by simp; omega
  unfold Wal.sector
  go_enter Tryz.func87, Tryz.ntmps87
  go_wp2
  have e1 : IntKind.i64.wrap ((s.start : Int) + (p : Int)) = (s.start : Int) + (p : Int) := by rw [IntKind.wrap_i64]; omega
  have e2 : ((s.start : Int) + (p : Int)).tmod (s.ring : Int) = (((s.start + p) % s.ring : Nat) : Int) := by
    rw [Int.tmod_eq_emod_of_nonneg (by omega)]
    rfl
  have e3 : IntKind.i64.wrap ((s.frm : Int) + 1) = (s.frm : Int) + 1 := by rw [IntKind.wrap_i64]; omega
  have hm : (s.start + p) % s.ring < s.ring := Nat.mod_lt _ hr0
  go_quiet (fail)
  clear e1 e2 e3
  go_wp2
  go_ret
  refine ⟨ret_i64 ?_, _, rfl⟩
  have hm' : (((s.start + p) % s.ring : Nat) : Int) < (s.ring : Int) := by omega
  have hm0 : (0 : Int) ≤ (((s.start + p) % s.ring : Nat) : Int) := by omega
  push_cast at hm' hm0 ⊢
  unfold wrap64
  generalize ((s.start : Int) + (p : Int)) % (s.ring : Int) = z at *
  omega

theorem check_nil (w : World) (x n : Int) : Calls Tryz.prog 60 #[.pointer none, .int .i64 x, .int .i64 n] w fun e w' => e = .returned (.int .i64 2) ∧ w = w' := by
  go_enter Tryz.func60, Tryz.ntmps60
  go_wp2
  go_ret
  exact ⟨rfl, rfl⟩
theorem check_any (w : World) (d : Nat) (F : List Nat) (m : Dsk.DM) (x n : Int) (hx : x ≤ 9223372036854775807) (h : DiskAt w d F m) :
    Calls Tryz.prog 60 #[.pointer (some ⟨d, 0, none⟩), .int .i64 x, .int .i64 n] w fun e w' => e = .returned (.int .i64 (checkErr m.dur.length x n)) ∧ w = w' := by
  have S := Lib.hid (size_any w d F m h)
  have hmost := h.good.most
  clear h
  by_cases h0 : x < 0
  · have e1 : checkErr m.dur.length x n = 1 := by unfold checkErr; rw [if_pos (.inl h0)]
    rw [e1]
    clear e1
    go_enter Tryz.func60, Tryz.ntmps60
    go_wp2_with fail
    go_ret
    exact ⟨rfl, rfl⟩
  · have h0' : decide (x < 0) = false := by simpa using h0
    have h0'' : 0 ≤ x := by omega
    by_cases h1 : n < 2
    · have e1 : checkErr m.dur.length x n = 1 := by unfold checkErr; rw [if_pos (.inr (.inl h1))]
      rw [e1]
      clear e1
      go_enter Tryz.func60, Tryz.ntmps60
      go_wp2_with fail
      go_ret
      exact ⟨rfl, rfl⟩
    · have h1' : decide (n < 2) = false := by simpa using h1
      by_cases h2 : (m.dur.length : Int) - x < n
      · have e1 : checkErr m.dur.length x n = 1 := by unfold checkErr; rw [if_pos (.inr (.inr h2))]
        rw [e1]
        clear e1 h0 h1
        go_enter Tryz.func60, Tryz.ntmps60
        go_wp2_with (go_at_call 24; refine S.out.mono ?_; rintro e w' ⟨rfl, rfl⟩)
        go_ret
        exact ⟨rfl, rfl⟩
      · have e1 : checkErr m.dur.length x n = 0 := by unfold checkErr; rw [if_neg (by omega)]
        rw [e1]
        clear e1 h0 h1
        have h2' : decide ((m.dur.length : Int) - x < n) = false := by simpa using h2
        go_enter Tryz.func60, Tryz.ntmps60
        go_wp2_with (go_at_call 24; refine S.out.mono ?_; rintro e w' ⟨rfl, rfl⟩)
        go_ret
        exact ⟨rfl, rfl⟩

/-- A string of a list, at its place. -/
theorem Strs.at_ {w : World} {A : Option Addr} {n k : Nat} {l : List ByteArray} (h : Strs w A n l) (hk : k < n) : ∃ b off s, A = some ⟨b, off, none⟩ ∧ b < w.heap.size ∧ l[k]? = some s ∧ s.size ≤ 4611686018427387904 ∧ w.cell? ⟨b, off + k, none⟩ = some (.string s) ∧ (txts l)[k]? = some (nums s) ∧ (txts l).take (k + 1) = (txts l).take k ++ [nums s] := by
  obtain ⟨b, off, e, hb, hc⟩ := h.2.2 (by omega)
  have hk' : k < l.length := by rw [h.1]; exact hk
  have e1 : l[k]? = some l[k] := List.getElem?_eq_getElem hk'
  have e2 : (txts l)[k]? = some (nums l[k]) := by simp [txts, e1]
  refine ⟨b, off, l[k], e, hb, e1, h.2.1 _ (List.getElem_mem hk'), hc k _ e1, e2, ?_⟩
  rw [List.take_add_one, e2]
  rfl

theorem good_take_bad {b : List (List Nat)} {k : Nat} {r : List Nat} (h : b[k]? = some r) (hr : 600 < r.length) : Wal.good b = false := by
  have : b.all (fun r => decide (r.length ≤ 600)) = false := by
    rw [List.all_eq_false]
    exact ⟨r, List.mem_of_getElem? h, by simpa using hr⟩
  simp [Wal.good, this]
theorem good_end {b : List (List Nat)} (h : ∀ (k : Nat) (r : List Nat), b[k]? = some r → r.length ≤ 600) : Wal.good b = (decide (1 ≤ b.length) && decide (b.length ≤ 1024)) := by
  have : b.all (fun r => decide (r.length ≤ 600)) = true := by
    rw [List.all_eq_true]
    intro r hr
    obtain ⟨k, hk⟩ := List.mem_iff_getElem?.1 hr
    simpa using h k r hk
  simp [Wal.good, this]

set_option maxHeartbeats 400000 in
theorem good_any (w : World) (A : Option Addr) (n c : Nat) (l : List ByteArray) (hn : n ≤ 4611686018427387904) (hl : Strs w A n l) :
    Calls Tryz.prog 84 #[.slice A n c] w fun e w' => e = .returned (.bool (Wal.good (txts l))) ∧ w = w' := by
  have HL := Lib.hid hl
  have hlen := Lib.hid hl.1
  clear hl
  go_enter Tryz.func84, Tryz.ntmps84
  go_wp2
  go_loop [7] (fun i => ∃ k : Nat, k ≤ n ∧ i = .int .i64 k ∧ Hid (∀ (j : Nat) (r : List Nat), j < k → (txts l)[j]? = some r → r.length ≤ 600)) (fun i => n - (intOf i).toNat)
  case atStart => exact ⟨0, by omega, rfl, fun j r hj => by omega⟩
  case round =>
    obtain ⟨k, hk, rfl, hs⟩ := hrel
    by_cases hlt : k < n
    · obtain ⟨b, off, s, rfl, _, hs1, hs2, hc, ht, _⟩ := HL.out.at_ hlt
      have T := Lib.hid ht
      have hsz := Lib.hid (nums_length s)
      clear ht hs1
      by_cases hbig : 600 < s.size
      · have E := Lib.hid (good_take_bad T.out (by rw [hsz.out]; exact hbig))
        go_wp2
        go_ret
        exact ⟨by rw [E.out]; rfl, rfl⟩
      · go_wp2
        go_round
        case rel => exact ⟨k + 1, by omega, by go_num, fun j r hj hr => by
          rcases Nat.lt_or_ge j k with h' | h'
          · exact hs.out j r h' hr
          · obtain rfl : j = k := by omega
            rw [T.out] at hr
            injection hr with hr
            rw [← hr, hsz.out]
            omega⟩
        case measure => simp [intOf]; omega
    · obtain rfl : k = n := by omega
      have E := Lib.hid (good_end (b := txts l) (fun j r hr => hs.out j r (by
        rcases Nat.lt_or_ge j k with h' | h'
        · exact h'
        · rw [List.getElem?_eq_none (by rw [txts_length, hlen.out]; exact h')] at hr; cases hr) hr))
      have h1024 : (txts l).length = k := by rw [txts_length, hlen.out]
      rw [h1024] at E
      clear h1024
      by_cases h1 : 1 ≤ k
      · go_wp2
        go_ret
        refine ⟨ret_bool (a := decide ((k : Int) ≤ 1024)) ?_, rfl⟩
        rw [E.out]
        have e1 : decide (1 ≤ k) = true := by simpa using h1
        rw [e1, Bool.true_and]
        exact decide_eq_decide.2 (by omega)
      · go_wp2
        go_ret
        refine ⟨ret_bool ?_, rfl⟩
        rw [E.out]
        have e1 : decide (1 ≤ k) = false := by simpa using h1
        rw [e1]
        rfl
end Go.Proofs.YtkajneeihhobhaaGreat

namespace Go.Proofs.YtkajneeihhobhaaGreat
open Go.RowKit Wal

set_option maxHeartbeats 400000 in
theorem need_any (w : World) (A : Option Addr) (n c : Nat) (l : List ByteArray) (hn : n ≤ 4611686018427387904) (hl : Strs w A n l) (hb : bodyLen (txts l) ≤ 4611686018427387904) :
    Calls Tryz.prog 65 #[.slice A n c] w fun e w' => e = .returned (.int .i64 (Wal.need (txts l) : Nat)) ∧ w = w' := by
  have HL := Lib.hid hl
  have hlen := Lib.hid hl.1
  clear hl
  unfold Wal.need
  go_enter Tryz.func65, Tryz.ntmps65
  go_wp2
  go_loop [3, 8] (fun x i => ∃ k : Nat, k ≤ n ∧ i = .int .i64 k ∧ x = .int .i64 (16 + bodyLen ((txts l).take k) : Nat)) (fun _ i => n - (intOf i).toNat)
  case atStart => exact ⟨0, by omega, rfl, rfl⟩
  case round =>
    obtain ⟨k, hk, rfl, rfl⟩ := hrel
    have h1 := bodyLen_take (txts l) k
    by_cases hlt : k < n
    · obtain ⟨b, off, s, rfl, _, _, _, hc, _, ht⟩ := HL.out.at_ hlt
      have h2 := bodyLen_take (txts l) (k + 1)
      rw [ht, bodyLen_snoc, nums_length] at h2
      have hS : Hid (bodyLen ((txts l).take (k + 1)) = bodyLen ((txts l).take k) + (4 + s.size)) := by show _ = _; rw [ht, bodyLen_snoc, nums_length]
      clear ht
      generalize bodyLen ((txts l).take k) = x at *
      go_wp2
      go_round
      case rel => exact ⟨k + 1, by omega, by go_num, by rw [hS.out]; go_num⟩
      case measure => simp [intOf]; omega
    · obtain rfl : k = n := by omega
      have e : (txts l).take k = txts l := List.take_of_length_le (by rw [txts_length, hlen.out]; exact Nat.le_refl _)
      have E := Lib.hid (congrArg bodyLen e)
      clear e
      generalize bodyLen ((txts l).take k) = x at *
      go_wp2
      go_ret
      exact ⟨ret_i64 (by rw [← E.out]; push_cast; omega), rfl⟩

theorem alive_nil (w : World) : Calls Tryz.prog 69 #[.pointer none] w fun e w' => e = .returned (.int .i64 2) ∧ w = w' := by
  go_enter Tryz.func69, Tryz.ntmps69
  go_wp2
  go_ret
  exact ⟨rfl, rfl⟩

/-- The blocks G' are those of G, or new since w. -/
def Grown (w : World) (G G' : List Nat) : Prop := ∀ x ∈ G', x ∈ G ∨ w.heap.size ≤ x
theorem Grown.refl (w : World) (G : List Nat) : Grown w G G := fun _ h => .inl h
theorem Grown.trans {w w1 : World} {G G1 G2 : List Nat} (h : Grown w G G1) (hs : w.heap.size ≤ w1.heap.size) (k : Grown w1 G1 G2) : Grown w G G2 := fun x hx => by
  rcases k x hx with h1 | h1
  · exact h x h1
  · exact .inr (Nat.le_trans hs h1)
theorem Grown.append {w : World} {G G' F F' : List Nat} (h : Grown w G G') (k : Grown w F F') : Grown w (G ++ F) (G' ++ F') := fun x hx => by
  rcases List.mem_append.1 hx with hx | hx
  · rcases h x hx with h | h
    · exact .inl (List.mem_append.2 (.inl h))
    · exact .inr h
  · rcases k x hx with h | h
    · exact .inl (List.mem_append.2 (.inr h))
    · exact .inr h

/-- What a call on a log leaves: a log like s' beside a disk like m', on their own blocks or new ones, and all else as it was. -/
def LTurned (w : World) (b : Nat) (G : List Nat) (d : Nat) (F : List Nat) (w' : World) (s' : LS) (m' : Dsk.DM) : Prop :=
  ∃ G' F', LD w' b G' s' d F' m' ∧ Only (G ++ F) w w' ∧ Grown w G G' ∧ Grown w F F'

section
variable {w w' w1 : World} {b d : Nat} {vn : Value} {s s' : LS} {G F G1 F1 H : List Nat} {m m' : Dsk.DM}
theorem LTurned.refl (h : LD w b G s d F m) : LTurned w b G d F w s m := ⟨G, F, h, Only.refl _ _, Grown.refl _ _, Grown.refl _ _⟩
theorem LTurned.trans (h : Only (G ++ F) w w1) (hG : Grown w G G1) (hF : Grown w F F1) (k : LTurned w1 b G1 d F1 w' s' m') : LTurned w b G d F w' s' m' := by
  obtain ⟨G2, F2, h1, h2, h3, h4⟩ := k
  exact ⟨G2, F2, h1, h.trans h2 (hG.append hF), hG.trans h.size h3, hF.trans h.size h4⟩
/-- The dead mark is set. -/
theorem LogIs.mark (h : LogIs w b d vn s) (x : Bool) : LogIs (w.setCell ⟨b, 7, none⟩ (.bool x)) b d vn { s with dead := x } := by
  have hc : ∀ i, i ≠ 7 → (w.setCell ⟨b, 7, none⟩ (.bool x)).cell? ⟨b, i, none⟩ = w.cell? ⟨b, i, none⟩ := fun i hi => World.cell?_setCell_other _ _ _ _ (fun e => hi (congrArg Addr.off e).symm)
  have ho : Only [b] w (w.setCell ⟨b, 7, none⟩ (.bool x)) := (Only.refl _ w).setCell (.inl (by simp)) _
  exact ⟨(hc 0 (by omega)).trans h.c0, (hc 1 (by omega)).trans h.c1, (hc 2 (by omega)).trans h.c2, (hc 3 (by omega)).trans h.c3, (hc 4 (by omega)).trans h.c4, (hc 5 (by omega)).trans h.c5, (hc 6 (by omega)).trans h.c6,
    World.cell?_setCell_same _ _ _ h.c7, h.tab.far (by rw [World.size_setCell]; exact Nat.le_refl _) (fun i hi => hc i (by omega)) (fun i => World.frozen?_setCell _ _ _ _), h.row.only ho (fun g hg => by simpa using h.far g hg), h.far⟩
theorem LD.mark (h : LD w b G s d F m) (x : Bool) : LTurned w b G d F (w.setCell ⟨b, 7, none⟩ (.bool x)) { s with dead := x } m := by
  have hb := h.mem
  have hbF := h.apart b hb
  have ho : Only [b] w (w.setCell ⟨b, 7, none⟩ (.bool x)) := (Only.refl _ w).setCell (.inl (by simp)) _
  have hy1 : ∀ y ∈ F, y ∉ [b] := fun y hy e => by
    obtain rfl : y = b := by simpa using e
    exact hbF hy
  have hy2 : ∀ y ∈ [b], y ∈ G ++ F ∨ w.heap.size ≤ y := fun y hy => by
    obtain rfl : y = b := by simpa using hy
    exact .inl (List.mem_append.2 (.inl hb))
  refine ⟨G, F, ⟨?_, h.disk.only ho hy1, h.apart⟩, ho.mono hy2, Grown.refl _ _, Grown.refl _ _⟩
  obtain ⟨vn, hl, rfl⟩ := h.log
  exact ⟨vn, hl.mark x, rfl⟩
theorem LD.same (h : LD w b G s d F m) {x : Bool} (hx : s.dead = x) : LD w b G { s with dead := x } d F m := by
  subst hx; exact h
/-- The disk alone was called. -/
theorem LD.turned (h : LD w b G s d F m) (t : Turned w d F w' m') : ∃ F', LD w' b G s d F' m' ∧ Only (G ++ F) w w' ∧ Grown w F F' := by
  obtain ⟨F', h1, h2, h3⟩ := t
  have ha : ∀ x ∈ G, x ∉ F := h.apart
  refine ⟨F', ⟨?_, h1, fun x hx hf => ?_⟩, h2.mono (fun x hx => .inl (List.mem_append.2 (.inr hx))), h3⟩
  · obtain ⟨vn, hl, rfl⟩ := h.log
    exact ⟨vn, hl.only h2 ha, rfl⟩
  · rcases h3 x hf with h4 | h4
    · exact ha x hx h4
    · have := h.glt x hx; omega
theorem LD.cells (h : LD w b G s d F m) : w.cell? ⟨b, 0, none⟩ = some (.pointer (some ⟨d, 0, none⟩)) ∧ w.cell? ⟨b, 7, none⟩ = some (.bool s.dead) ∧ w.frozen? ⟨b, 7, none⟩ = false := by
  obtain ⟨vn, hl, _⟩ := h.log
  exact ⟨hl.c0, hl.c7, hl.tab.fr 7⟩
end

def aliveErr (s : LS) (m : Dsk.DM) : Int := if s.dead || m.dead then 10 else 0
theorem alive_any (w : World) (b d : Nat) (s : LS) (G F : List Nat) (m : Dsk.DM) (h : LD w b G s d F m) :
    Calls Tryz.prog 69 #[.pointer (some ⟨b, 0, none⟩)] w fun e w' => e = .returned (.int .i64 (aliveErr s m)) ∧ LTurned w b G d F w' { s with dead := s.dead || m.dead } m := by
  obtain ⟨c0, c7, f7⟩ := h.cells
  have D := Lib.hid (dead_any w d F m h.disk)
  by_cases hs : s.dead = true
  · have e1 : aliveErr s m = 10 := by simp [aliveErr, hs]
    have e2 : (s.dead || m.dead) = true := by simp [hs]
    rw [e1, e2]
    rw [hs] at c7
    have H := Lib.hid (h.mark true)
    clear e1 e2 h hs
    go_enter Tryz.func69, Tryz.ntmps69
    go_wp2_with fail
    go_ret
    exact ⟨rfl, H.out⟩
  · have hs' : s.dead = false := by simpa using hs
    rw [hs'] at c7
    by_cases hm : m.dead = true
    · have e1 : aliveErr s m = 10 := by simp [aliveErr, hm]
      have e2 : (s.dead || m.dead) = true := by simp [hm]
      rw [e1, e2]
      rw [hm] at D
      have H := Lib.hid (h.mark true)
      clear e1 e2 h hs hs' hm
      go_enter Tryz.func69, Tryz.ntmps69
      go_wp2_with (go_at_call 32; refine D.out.mono ?_; rintro e w' ⟨rfl, rfl⟩)
      go_ret
      exact ⟨rfl, H.out⟩
    · have hm' : m.dead = false := by simpa using hm
      have e1 : aliveErr s m = 0 := by simp [aliveErr, hs', hm']
      have e2 : (s.dead || m.dead) = false := by simp [hs', hm']
      rw [e1, e2]
      rw [hm'] at D
      have H := Lib.hid (h.mark false)
      clear e1 e2 h hs hs' hm hm'
      go_enter Tryz.func69, Tryz.ntmps69
      go_wp2_with (go_at_call 32; refine D.out.mono ?_; rintro e w' ⟨rfl, rfl⟩)
      go_ret
      exact ⟨rfl, H.out⟩

theorem writeErr_range (m : Dsk.DM) (i : Int) (n : Nat) : m.writeErr i n = 0 ∨ m.writeErr i n = 1 ∨ m.writeErr i n = 10 := by
  unfold Dsk.DM.writeErr
  split
  · simp
  · split
    · simp
    · split <;> simp
theorem flushErr_range (m : Dsk.DM) : m.flushErr = 0 ∨ m.flushErr = 10 := by
  unfold Dsk.DM.flushErr
  split
  · simp
  · split <;> simp

set_option maxHeartbeats 400000 in
theorem lwrite_any (w : World) (b d : Nat) (s : LS) (G F : List Nat) (m : Dsk.DM) (i : Int) (A : Option Addr) (n c : Nat) (l : List Nat) (h : LD w b G s d F m) (hl : Bts w A n l) (hn : n ≤ 9223372036854775807) (hA : 0 < n → ∀ x, A = some x → x.block ∉ F) (hw : m.wait.length ≤ 5800000000000) :
    Calls Tryz.prog 76 #[.pointer (some ⟨b, 0, none⟩), .int .i64 i, .slice A n c] w fun e w' => e = .returned (.int .i64 (m.writeErr i n)) ∧ LTurned w b G d F w' { s with dead := m.writeErr i n != 0 } (m.write i l) := by
  obtain ⟨c0, _, _⟩ := h.cells
  have H := Lib.hid h
  have W := Lib.hid (write_any w d F m i A n c l h.disk hl hn hA hw)
  have R := Lib.hid (writeErr_range m i n)
  clear h hl hA hw
  go_enter Tryz.func76, Tryz.ntmps76
  go_wp2_with fail
  refine W.out.mono ?_
  rintro e w1 ⟨rfl, ht⟩
  obtain ⟨F1, h1, h2, h3⟩ := H.out.turned ht
  obtain ⟨d0, d7, g7⟩ := h1.cells
  have H1 := Lib.hid h1
  have O1 := Lib.hid h2
  have N1 := Lib.hid h3
  clear ht h1 h2 h3 c0 H W
  rcases R.out with e | e | e
  all_goals
    rw [e]
    have E := Lib.hid e
    clear R e
    have M := Lib.hid (fun x => H1.out.mark x)
    go_wp2_with fail
    go_ret
    rw [E.out]
    exact ⟨rfl, LTurned.trans O1.out (Grown.refl _ _) N1.out (M.out _)⟩
theorem lflush_any (w : World) (b d : Nat) (s : LS) (G F : List Nat) (m : Dsk.DM) (h : LD w b G s d F m) (hw : m.wait.length ≤ 5800000000000) :
    Calls Tryz.prog 70 #[.pointer (some ⟨b, 0, none⟩)] w fun e w' => e = .returned (.int .i64 m.flushErr) ∧ LTurned w b G d F w' { s with dead := m.flushErr != 0 } m.flush := by
  obtain ⟨c0, _, _⟩ := h.cells
  have H := Lib.hid h
  have W := Lib.hid (flush_any w d F m h.disk hw)
  have R := Lib.hid (flushErr_range m)
  clear h hw
  go_enter Tryz.func70, Tryz.ntmps70
  go_wp2_with fail
  refine W.out.mono ?_
  rintro e w1 ⟨rfl, ht⟩
  obtain ⟨F1, h1, h2, h3⟩ := H.out.turned ht
  obtain ⟨d0, d7, g7⟩ := h1.cells
  have H1 := Lib.hid h1
  have O1 := Lib.hid h2
  have N1 := Lib.hid h3
  clear ht h1 h2 h3 c0 H W
  rcases R.out with e | e
  all_goals
    rw [e]
    have E := Lib.hid e
    clear R e
    have M := Lib.hid (fun x => H1.out.mark x)
    go_wp2_with fail
    go_ret
    rw [E.out]
    exact ⟨rfl, LTurned.trans O1.out (Grown.refl _ _) N1.out (M.out _)⟩
end Go.Proofs.YtkajneeihhobhaaGreat
