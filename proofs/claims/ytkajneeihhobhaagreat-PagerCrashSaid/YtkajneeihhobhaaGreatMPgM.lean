/-
  pager: commits and what they write of a block; their batches. · pager: what a disk tells of a pager, behind a crash too; what lies behind the log's sectors stays. · pager: how much a call on the log leaves waiting. · pager: what a commit, a sync, and room that is made leave of a pager, where all goes well, and where the disk dies.
-/
import Derived.Test.YtkajneeihhobhaaGreatMPgB
import Derived.Test.YtkajneeihhobhaaGreatMMath
import Derived.Test.YtkajneeihhobhaaGreatMWalA
import Derived.Test.YtkajneeihhobhaaGreatMInv
namespace Go.Proofs.YtkajneeihhobhaaGreat
open Wal

namespace Pgr
/-- What a commit writes. -/
abbrev Com := Nat → Option (List Nat)
def Z : List Nat := sec []
/-- Block b behind the commits C. -/
def At (C : List Com) (b : Nat) : List Nat := C.foldl (fun z g => (g b).getD z) Z
/-- What the last one of the commits that write block b writes there. -/
def Away (C : List Com) (b : Nat) : Option (List Nat) := C.foldl (fun z g => (g b).or z) none
theorem At_snoc (C : List Com) (g : Com) (b : Nat) : At (C ++ [g]) b = (g b).getD (At C b) := by simp [At]
theorem Away_snoc (C : List Com) (g : Com) (b : Nat) : Away (C ++ [g]) b = (g b).or (Away C b) := by simp [Away]
theorem fold_at (b : Nat) (z : List Nat) : ∀ (D : List Com) (o : Option (List Nat)), D.foldl (fun z g => (g b).getD z) (o.getD z) = (D.foldl (fun z g => (g b).or z) o).getD z
  | [], _ => rfl
  | g :: r, o => by
    have e : (g b).getD (o.getD z) = ((g b).or o).getD z := by cases g b <;> rfl
    show r.foldl _ ((g b).getD (o.getD z)) = (r.foldl _ ((g b).or o)).getD z
    rw [e]
    exact fold_at b z r _
theorem At_append (C D : List Com) (b : Nat) : At (C ++ D) b = (Away D b).getD (At C b) := by
  unfold At Away
  rw [List.foldl_append]
  exact fold_at b _ D none
theorem fold_none (b : Nat) : ∀ (D : List Com) (o : Option (List Nat)), D.foldl (fun z g => (g b).or z) o = none ↔ o = none ∧ ∀ g ∈ D, g b = none
  | [], o => by simp
  | g :: r, o => by
    show r.foldl _ ((g b).or o) = none ↔ _
    rw [fold_none b r]
    cases hg : g b with
    | none => simp [hg]
    | some x => simp [hg]
theorem Away_none {D : List Com} {b : Nat} : Away D b = none ↔ ∀ g ∈ D, g b = none := by
  unfold Away
  rw [fold_none]
  simp
theorem fold_some (b : Nat) (l : List Nat) : ∀ (D : List Com) (o : Option (List Nat)), D.foldl (fun z g => (g b).or z) o = some l → o = some l ∨ ∃ g ∈ D, g b = some l
  | [], o, h => .inl h
  | g :: r, o, h => by
    rcases fold_some b l r ((g b).or o) h with h1 | ⟨k, hk, h1⟩
    · cases hg : g b with
      | none => rw [hg] at h1; exact .inl (by simpa using h1)
      | some x => rw [hg] at h1; exact .inr ⟨g, by simp, by rw [hg]; simpa using h1⟩
    · exact .inr ⟨k, by simp [hk], h1⟩
theorem Away_some {D : List Com} {b : Nat} {l : List Nat} (h : Away D b = some l) : ∃ g ∈ D, g b = some l := by
  rcases fold_some b l D none h with h | h
  · cases h
  · exact h

/-- The blocks that a commit writes, rising. -/
def dirt (N : Nat) (g : Com) : List Nat := (List.range N).filter fun b => (g b).isSome
def recB (b : Nat) (l : List Nat) : List Nat := num 4 b ++ l
/-- A commit's batch. -/
def rows (N : Nat) (g : Com) : List (List Nat) := (dirt N g).map fun b => recB b ((g b).getD Z)
/-- A commit writes blocks that there are. -/
def Fine (N : Nat) (g : Com) : Prop := ∀ b l, g b = some l → b < N ∧ Blk l
theorem mem_dirt {N : Nat} {g : Com} {b : Nat} : b ∈ dirt N g ↔ b < N ∧ (g b).isSome = true := by simp [dirt]
theorem dirt_le (N : Nat) (g : Com) : (dirt N g).length ≤ N := by
  have := List.length_filter_le (fun b => (g b).isSome) (List.range N)
  rwa [List.length_range] at this
theorem blk_get {N : Nat} {g : Com} (h : Fine N g) (b : Nat) : Blk ((g b).getD Z) := by
  cases hb : g b with
  | none => exact Blk.zero
  | some l => exact (h b l hb).2
theorem recB_length {b : Nat} {l : List Nat} (h : Blk l) : (recB b l).length = 516 := by
  unfold recB
  rw [List.length_append, num_length, h.len]
theorem recB_bytes {b : Nat} {l : List Nat} (h : Blk l) : ∀ x ∈ recB b l, x < 256 := fun x hx => by
  rcases List.mem_append.1 hx with hx | hx
  · exact num_bytes _ _ _ hx
  · exact h.bytes x hx
theorem rows_length (N : Nat) (g : Com) : (rows N g).length = (dirt N g).length := by simp [rows]
theorem rows_mem {N : Nat} {g : Com} (h : Fine N g) : ∀ r ∈ rows N g, r.length = 516 ∧ ∀ x ∈ r, x < 256 := fun r hr => by
  obtain ⟨b, _, rfl⟩ := List.mem_map.1 hr
  exact ⟨recB_length (blk_get h b), recB_bytes (blk_get h b)⟩
theorem body_const : ∀ (B : List (List Nat)), (∀ r ∈ B, r.length = 516) → bodyLen B = 520 * B.length
  | [], _ => rfl
  | r :: B, h => by
    have h1 := body_const B (fun x hx => h x (by simp [hx]))
    have h2 := h r (by simp)
    have e : bodyLen (r :: B) = (4 + r.length) + bodyLen B := by simp [bodyLen]
    rw [e, h1, h2, List.length_cons]
    omega
theorem rows_body {N : Nat} {g : Com} (h : Fine N g) : bodyLen (rows N g) = 520 * (dirt N g).length := by
  rw [body_const _ (fun r hr => (rows_mem h r hr).1), rows_length]
theorem rows_need {N : Nat} {g : Com} (h : Fine N g) : need (rows N g) = (16 + 520 * (dirt N g).length + 511) / 512 := by
  unfold need
  rw [rows_body h]
theorem rows_good {N : Nat} {g : Com} (h : Fine N g) (h1 : 1 ≤ (dirt N g).length) (h2 : (dirt N g).length ≤ 1024) : Wal.good (rows N g) = true := by
  rw [good_end (fun k r hr => by
    have := (rows_mem h r (List.mem_of_getElem? hr)).1
    omega), rows_length]
  simp [h1, h2]
end Pgr
end Go.Proofs.YtkajneeihhobhaaGreat

namespace Go.Proofs.YtkajneeihhobhaaGreat
open Wal

namespace Pgr
/-- What the sectors V tell of a pager of N blocks behind reg sectors: the commits C, the log's first one fi. -/
structure Tells (N reg : Nat) (V : Nat → List Nat) (C : List Com) (st fi : Nat) : Prop where
  found : Wal.Found 0 (reg - 1) V st fi C.length ((C.drop (fi - 1)).map (rows N))
  first : fi ≤ C.length + 1
  home : ∀ b, b < N → Away (C.drop (fi - 1)) b = none → sec (V (reg + b)) = At (C.take (fi - 1)) b
  fine : ∀ g ∈ C, Fine N g

/-- A pager beside its disk: C are the commits. -/
structure PInv (P : PS) (C : List Com) : Prop where
  inv : Inv P.s P.m ((C.drop (P.s.first - 1)).map (rows P.N))
  frm : P.s.frm = 0
  reg : P.s.ring + 1 = P.reg
  fi : P.s.first ≤ C.length + 1
  fine : ∀ g ∈ C, Fine P.N g
  clear : ∀ p ∈ P.m.wait, p.1 < P.reg
  home : ∀ b, b < P.N → Away ((C.take P.s.synced).drop (P.s.first - 1)) b = none → sec (holds P.m.dur (P.reg + b)) = At (C.take (P.s.first - 1)) b
  away : P.f = Away (C.drop (P.s.first - 1))
  wait : P.m.wait.length ≤ (((C.drop P.s.synced).map (rows P.N)).map need).sum
  alive : P.dead = false

section
variable {P : PS} {C : List Com}
theorem PInv.first1 (h : PInv P C) : 1 ≤ P.s.first := h.inv.ok.first1
theorem PInv.count (h : PInv P C) : P.s.first + (C.drop (P.s.first - 1)).length = C.length + 1 := by
  have := h.fi
  have := h.first1
  rw [List.length_drop]
  omega
theorem PInv.syn (h : PInv P C) : P.s.first ≤ P.s.synced + 1 ∧ P.s.synced ≤ C.length := by
  have h1 := h.inv.syn1
  have h2 := h.inv.syn2
  have h3 := h.count
  rw [List.length_map] at h2
  exact ⟨h1, by omega⟩
theorem PInv.last (h : PInv P C) : P.s.last = (C.length : Int) := by
  have h1 := h.inv.last
  have h2 := h.count
  rw [List.length_map, h2] at h1
  rw [h1]
  omega
theorem PInv.room (h : PInv P C) : (((C.drop (P.s.first - 1)).map (rows P.N)).map need).sum ≤ P.s.ring := by
  have := h.inv.ok.needs
  rwa [h.inv.sum] at this
theorem sum_drop_le (l : List Nat) (a b : Nat) (h : a ≤ b) : (l.drop b).sum ≤ (l.drop a).sum := by
  have e : l.drop b = (l.drop a).drop (b - a) := by rw [List.drop_drop]; congr 1; omega
  rw [e]
  conv => rhs; rw [← List.take_append_drop (b - a) (l.drop a), List.sum_append]
  omega
theorem PInv.waits (h : PInv P C) : P.m.wait.length ≤ 4096 := by
  have h1 := h.wait
  have h2 := h.room
  have h3 := h.inv.ok.ring
  have h4 := sum_drop_le ((C.map (rows P.N)).map need) (P.s.first - 1) P.s.synced (by have := h.syn.1; omega)
  simp only [← List.map_drop] at h1 h2 h4
  omega
theorem PInv.wait_none (h : PInv P C) (hs : P.s.synced = C.length) : P.m.wait = [] := by
  have h1 := h.wait
  rw [hs, List.drop_length] at h1
  exact List.eq_nil_of_length_eq_zero (by simpa using h1)
theorem holds_apply_beyond {w : List (Nat × List Nat)} {d : List (List Nat)} {reg i : Nat} (h : ∀ p ∈ w, p.1 < reg) (hi : reg ≤ i) : holds (Dsk.apply w d) i = holds d i :=
  holds_apply_other (fun p hp => by have := h p hp; omega)
theorem holds_crash_beyond {w : List (Nat × List Nat)} {k : List Bool} {d : List (List Nat)} {reg i : Nat} (h : ∀ p ∈ w, p.1 < reg) (hi : reg ≤ i) : holds (Dsk.crashD w k d) i = holds d i :=
  holds_crash_other (fun p hp => by have := h p hp; omega)
theorem Away_part {D : List Com} {b k : Nat} (h : Away D b = none) : Away (D.take k) b = none := Away_none.2 fun g hg => Away_none.1 h g (List.mem_of_mem_take hg)
theorem take_drop_syn (C : List Com) (a s : Nat) : (C.take s).drop a = (C.drop a).take (s - a) := List.drop_take
/-- What is read of a block. -/
theorem PInv.at_ (h : PInv P C) {b : Nat} (hb : b < P.N) : P.at_ b = At C b := by
  unfold PS.at_
  rw [h.away]
  have e : C = C.take (P.s.first - 1) ++ C.drop (P.s.first - 1) := (List.take_append_drop _ _).symm
  conv => rhs; rw [e, At_append]
  cases ha : Away (C.drop (P.s.first - 1)) b with
  | some l => rfl
  | none =>
    have h1 := h.home b hb (by rw [take_drop_syn]; exact Away_part ha)
    show sec (P.m.seen.getD (P.reg + b) []) = _
    rw [show P.m.seen.getD (P.reg + b) [] = holds (Dsk.apply P.m.wait P.m.dur) (P.reg + b) from rfl, holds_apply_beyond h.clear (by omega)]
    exact h1
/-- What a crash leaves of a pager: the commits that are synced. -/
theorem PInv.safe (h : PInv P C) (kp : List Bool) : Tells P.N P.reg (holds (Dsk.crashD P.m.wait kp P.m.dur)) (C.take P.s.synced) P.s.start P.s.first := by
  have h1 := h.inv.safe kp
  have h2 := h.syn
  have h3 := h.first1
  have hl : (C.take P.s.synced).length = P.s.synced := by rw [List.length_take]; omega
  rw [h.frm, show P.s.ring = P.reg - 1 by have := h.reg; omega] at h1
  refine ⟨?_, by rw [hl]; omega, fun b hb ha => ?_, fun g hg => h.fine g (List.mem_of_mem_take hg)⟩
  · rw [hl, take_drop_syn, List.map_take, show P.s.synced - (P.s.first - 1) = P.s.synced + 1 - P.s.first by omega]
    exact h1
  · rw [holds_crash_beyond h.clear (by omega), List.take_take, Nat.min_eq_left (by omega)]
    exact h.home b hb ha
end

/-- A disk, behind a call on the log of a pager: what waits is of the log's region, what is durable behind that is as it was. -/
def Keeps (reg : Nat) (m m' : Dsk.DM) : Prop := (∀ p ∈ m'.wait, p.1 < reg) ∧ ∀ i, reg ≤ i → holds m'.dur i = holds m.dur i
section
variable {reg : Nat} {m m' m2 : Dsk.DM} {s : LS}
theorem Keeps.refl (h : ∀ p ∈ m.wait, p.1 < reg) : Keeps reg m m := ⟨h, fun _ _ => rfl⟩
theorem Keeps.trans (h : Keeps reg m m') (k : Keeps reg m' m2) : Keeps reg m m2 := ⟨k.1, fun i hi => (k.2 i hi).trans (h.2 i hi)⟩
theorem keeps_write (h : ∀ p ∈ m.wait, p.1 < reg) {i : Nat} (hi : i < reg) (l : List Nat) : Keeps reg m (m.write i l) := by
  unfold Dsk.DM.write
  split
  · exact Keeps.refl h
  split
  · exact Keeps.refl h
  split
  · exact ⟨h, fun _ _ => rfl⟩
  · refine ⟨fun p hp => ?_, fun j _ => ?_⟩
    · have hp : p ∈ m.wait ++ [(((i : Nat) : Int).toNat, l)] := hp
      rcases List.mem_append.1 hp with hp | hp
      · exact h p hp
      · have : p = (((i : Nat) : Int).toNat, l) := by simpa using hp
        rw [this, Int.toNat_natCast]
        exact hi
    · show holds m.burn.dur j = _
      rw [Dsk.DM.burn_dur]
theorem keeps_flush (h : ∀ p ∈ m.wait, p.1 < reg) : Keeps reg m m.flush := by
  unfold Dsk.DM.flush
  split
  · exact Keeps.refl h
  split
  · exact ⟨h, fun _ _ => rfl⟩
  · refine ⟨fun p hp => (by cases hp), fun i hi => ?_⟩
    exact holds_apply_beyond h hi
theorem keeps_wr (h : ∀ p ∈ m.wait, p.1 < reg) {i : Nat} (hi : i < reg) (l : List Nat) : Keeps reg m (wrO s m i l).2.2 := keeps_write h hi l
theorem keeps_fl (h : ∀ p ∈ m.wait, p.1 < reg) : Keeps reg m (flO s m).2.2 := keeps_flush h
theorem keeps_tell (h : ∀ p ∈ m.wait, p.1 < reg) (hf : s.frm < reg) (a b c : Nat) : Keeps reg m (tellO s m a b c).2.2 := by
  have k1 := keeps_wr (s := s) h hf (told s.frm s.ring a b c)
  unfold tellO
  dsimp only
  split
  · exact k1
  · have k2 := keeps_fl (s := (wrO s m s.frm (told s.frm s.ring a b c)).2.1) k1.1
    split
    · exact k1.trans k2
    · exact k1.trans k2
theorem keeps_writes : ∀ (r : List (List Nat)) (p : Nat) (s : LS) (m : Dsk.DM), (∀ p ∈ m.wait, p.1 < reg) → (∀ q, sector s q < reg) → Keeps reg m (writesO p r s m).2.2
  | [], _, _, _, h, _ => Keeps.refl h
  | l :: r, p, s, m, h, hs => by
    have k1 := keeps_wr (s := s) h (hs p) l
    unfold writesO
    split
    · exact k1
    · exact k1.trans (keeps_writes r (p + 1) _ _ k1.1 (fun q => hs q))
theorem keeps_append (h : ∀ p ∈ m.wait, p.1 < reg) (hs : ∀ q, sector s q < reg) (b : List (List Nat)) : Keeps reg m (appendO s m b).2.2.2 := by
  unfold appendO
  dsimp only
  split
  · exact Keeps.refl h
  split
  · exact Keeps.refl h
  split
  · exact Keeps.refl h
  have k := keeps_writes (reg := reg) ((List.range (need b)).map (chunk (packed (s.last + 1).toNat b))) s.needs.sum { s with dead := s.dead || m.dead } m h (fun q => hs q)
  split
  · exact k
  · exact k
theorem keeps_sync (h : ∀ p ∈ m.wait, p.1 < reg) (hf : s.frm < reg) : Keeps reg m (syncO s m).2.2 := by
  unfold syncO
  dsimp only
  split
  · exact Keeps.refl h
  split
  · exact Keeps.refl h
  have k1 := keeps_fl (s := { s with dead := s.dead || m.dead }) h
  split
  · exact k1
  · exact k1.trans (keeps_tell k1.1 hf _ _ _)
theorem keeps_trim (h : ∀ p ∈ m.wait, p.1 < reg) (hf : s.frm < reg) (u : Int) : Keeps reg m (trimO s m u).2.2 := by
  unfold trimO
  dsimp only
  split
  · exact Keeps.refl h
  split
  · exact Keeps.refl h
  split
  · exact Keeps.refl h
  have k1 := keeps_tell (s := { s with dead := s.dead || m.dead }) h hf ((s.start + (s.needs.take (u - s.first + 1).toNat).sum) % s.ring) (u + 1).toNat s.synced
  split
  · exact k1
  · exact k1
end
end Pgr
end Go.Proofs.YtkajneeihhobhaaGreat

namespace Go.Proofs.YtkajneeihhobhaaGreat
open Wal

namespace Wal
theorem ptellO_wait (s : LS) (m : Dsk.DM) (a b c : Nat) : (tellO s m a b c).2.2.wait.length ≤ m.wait.length + 1 := by
  unfold tellO
  dsimp only
  have h1 := write_wait m (s.frm : Int) (told s.frm s.ring a b c)
  split
  · exact h1
  · split
    · exact Nat.le_trans (flush_wait _) h1
    · exact Nat.le_trans (flush_wait _) h1
theorem psyncO_wait (s : LS) (m : Dsk.DM) : (syncO s m).2.2.wait.length ≤ m.wait.length + 1 := by
  unfold syncO
  dsimp only
  split
  · show m.wait.length ≤ _; omega
  · split
    · show m.wait.length ≤ _; omega
    · have h1 := flush_wait m
      split
      · exact Nat.le_trans h1 (Nat.le_succ _)
      · refine Nat.le_trans (ptellO_wait _ _ _ _ _) ?_
        show m.flush.wait.length + 1 ≤ _
        omega
theorem ptrimO_wait (s : LS) (m : Dsk.DM) (u : Int) : (trimO s m u).2.2.wait.length ≤ m.wait.length + 1 := by
  unfold trimO
  dsimp only
  split
  · show m.wait.length ≤ _; omega
  · split
    · show m.wait.length ≤ _; omega
    · split
      · show m.wait.length ≤ _; omega
      · split
        · exact ptellO_wait _ _ _ _ _
        · exact ptellO_wait _ _ _ _ _
theorem pappendO_wait (s : LS) (m : Dsk.DM) (b : List (List Nat)) : (appendO s m b).2.2.2.wait.length ≤ m.wait.length + need b := by
  unfold appendO
  dsimp only
  split
  · show m.wait.length ≤ _; omega
  · split
    · show m.wait.length ≤ _; omega
    · split
      · show m.wait.length ≤ _; omega
      · have h1 := writesO_wait ((List.range (need b)).map (chunk (packed (LS.last { s with dead := s.dead || m.dead } + 1).toNat b))) s.needs.sum { s with dead := s.dead || m.dead } m
        rw [List.length_map, List.length_range] at h1
        split
        · exact h1
        · exact h1
end Wal
end Go.Proofs.YtkajneeihhobhaaGreat

namespace Go.Proofs.YtkajneeihhobhaaGreat
open Wal

namespace Pgr
/-- What a disk that has died under a pager leaves behind any crash. -/
def Ends (P : PS) (C : List Com) (m' : Dsk.DM) : Prop :=
  m'.dead = true ∧ m'.dur.length = P.m.dur.length ∧ (∀ kp, ∃ k, P.s.synced ≤ k ∧ k ≤ C.length ∧ ∃ st fi, Tells P.N P.reg (holds (Dsk.crashD m'.wait kp m'.dur)) (C.take k) st fi) ∧ m'.wait.length ≤ 20000
theorem room_le (s : LS) : s.room ≤ (s.ring : Int) := by
  unfold LS.room
  omega
/-- Fuel, behind a call. -/
def Fuels (m m' : Dsk.DM) : Prop := (m.fuel = -1 → m'.fuel = -1) ∧ (-1 ≤ m.fuel → -1 ≤ m'.fuel)
theorem Fuels.refl (m : Dsk.DM) : Fuels m m := ⟨id, id⟩
theorem Fuels.trans {a b c : Dsk.DM} (h : Fuels a b) (k : Fuels b c) : Fuels a c := ⟨fun x => k.1 (h.1 x), fun x => k.2 (h.2 x)⟩
theorem fuels_spend {m m' : Dsk.DM} {n : Nat} (h : m'.fuel = spend m.fuel n) (hn : m.fuel = -1 ∨ (n : Int) ≤ m.fuel) : Fuels m m' := by
  refine ⟨fun e => by rw [h, e]; rfl, fun _ => ?_⟩
  rw [h]
  unfold spend
  split
  · omega
  · omega
section
variable {P : PS} {C : List Com} {g : Com}
theorem take_len (C : List Com) : C.take C.length = C := List.take_length
theorem PInv.self (h : PInv P C) (kp : List Bool) : ∃ k, P.s.synced ≤ k ∧ k ≤ C.length ∧ ∃ st fi, Tells P.N P.reg (holds (Dsk.crashD P.m.wait kp P.m.dur)) (C.take k) st fi :=
  ⟨_, Nat.le_refl _, h.syn.2, _, _, h.safe kp⟩
/-- Sectors that tell the log's synced batches, beside blocks that are as they were, tell the synced commits. -/
theorem PInv.tells_old (h : PInv P C) {d : List (List Nat)} (hf : Wal.Found P.s.frm P.s.ring (holds d) P.s.start P.s.first P.s.synced (((C.drop (P.s.first - 1)).map (rows P.N)).take (P.s.synced + 1 - P.s.first)))
    (hd : ∀ b, b < P.N → Away ((C.take P.s.synced).drop (P.s.first - 1)) b = none → sec (holds d (P.reg + b)) = sec (holds P.m.dur (P.reg + b))) : Tells P.N P.reg (holds d) (C.take P.s.synced) P.s.start P.s.first := by
  have h2 := h.syn
  have h3 := h.first1
  have hl : (C.take P.s.synced).length = P.s.synced := by rw [List.length_take]; omega
  rw [h.frm, show P.s.ring = P.reg - 1 by have := h.reg; omega] at hf
  refine ⟨?_, by rw [hl]; omega, fun b hb ha => ?_, fun g hg => h.fine g (List.mem_of_mem_take hg)⟩
  · rw [hl, take_drop_syn, List.map_take, show P.s.synced - (P.s.first - 1) = P.s.synced + 1 - P.s.first by omega]
    exact hf
  · rw [hd b hb ha, List.take_take, Nat.min_eq_left (by omega)]
    exact h.home b hb ha
theorem PInv.tells_new (h : PInv P C) {d : List (List Nat)} (hf : Wal.Found P.s.frm P.s.ring (holds d) P.s.start P.s.first C.length ((C.drop (P.s.first - 1)).map (rows P.N)))
    (hd : ∀ b, b < P.N → Away (C.drop (P.s.first - 1)) b = none → sec (holds d (P.reg + b)) = sec (holds P.m.dur (P.reg + b))) : Tells P.N P.reg (holds d) C P.s.start P.s.first := by
  rw [h.frm, show P.s.ring = P.reg - 1 by have := h.reg; omega] at hf
  refine ⟨hf, h.fi, fun b hb ha => ?_, h.fine⟩
  rw [hd b hb ha]
  exact h.home b hb (by rw [take_drop_syn]; exact Away_part ha)
theorem PInv.sectors (h : PInv P C) (q : Nat) : sector P.s q < P.reg := by
  have h1 := (sector_lt (s := P.s) h.inv.ok.ring0 q).2
  have := h.frm
  have := h.reg
  omega
theorem PInv.frm_lt (h : PInv P C) : P.s.frm < P.reg := by
  have := h.frm
  have := h.reg
  have := h.inv.ok.ring0
  omega
theorem drop_snoc (h : P.s.first ≤ C.length + 1) (h1 : 1 ≤ P.s.first) : (C ++ [g]).drop (P.s.first - 1) = C.drop (P.s.first - 1) ++ [g] := List.drop_append_of_le_length (by omega)

/-- A commit comes into the log. -/
theorem PInv.append (h : PInv P C) (hg : Fine P.N g) (hgd : Wal.good (rows P.N g) = true) (hr : (need (rows P.N g) : Int) ≤ P.s.room) (hf : -1 ≤ P.m.fuel) :
    (∃ s' m', appendO P.s P.m (rows P.N g) = ((C.length : Int) + 1, 0, s', m') ∧ PInv { P with s := s', m := m', f := fun b => (g b).or (P.f b) } (C ++ [g]) ∧ Fuels P.m m' ∧ s'.synced = P.s.synced ∧ m'.dur.length = P.m.dur.length) ∨
    (∃ m', appendO P.s P.m (rows P.N g) = (0, 10, { P.s with dead := true }, m') ∧ P.m.fuel ≠ -1 ∧ Ends P C m') := by
  have hk := keeps_append (s := P.s) (reg := P.reg) h.clear h.sectors (rows P.N g)
  have hs := h.syn
  have h1 := h.first1
  rcases h.inv.append hgd (fun r hr => (rows_mem hg r hr).2) hr hf with ⟨m', e, hi, e2, e3, e4, e5⟩ | ⟨m', e, e2, e3, _, e4, e5⟩
  · left
    rw [e] at hk
    refine ⟨{ P.s with needs := P.s.needs ++ [need (rows P.N g)] }, m', by rw [e, h.last], ?_, fuels_spend e3 e5, rfl, by rw [e2]⟩
    refine ⟨?_, h.frm, h.reg, by rw [List.length_append]; have := h.fi; show P.s.first ≤ _; omega, fun x hx => ?_, hk.1, fun b hb ha => ?_, ?_, ?_, h.alive⟩
    · show Inv _ m' (((C ++ [g]).drop (P.s.first - 1)).map (rows P.N))
      rw [drop_snoc h.fi h1, List.map_append]
      exact hi
    · rcases List.mem_append.1 hx with hx | hx
      · exact h.fine x hx
      · have : x = g := by simpa using hx
        rw [this]; exact hg
    · have ha : Away (((C ++ [g]).take P.s.synced).drop (P.s.first - 1)) b = none := ha
      rw [List.take_append_of_le_length hs.2] at ha
      show sec (holds m'.dur (P.reg + b)) = At ((C ++ [g]).take (P.s.first - 1)) b
      rw [e2, List.take_append_of_le_length (by have := h.fi; omega)]
      exact h.home b hb ha
    · show (fun b => (g b).or (P.f b)) = Away ((C ++ [g]).drop (P.s.first - 1))
      funext b
      rw [drop_snoc h.fi h1, Away_snoc, h.away]
    · show m'.wait.length ≤ _
      rw [e4, List.drop_append_of_le_length hs.2, List.map_append, List.map_append, List.sum_append]
      have hw := h.wait
      show P.m.wait.length + need (rows P.N g) ≤ (((C.drop P.s.synced).map (rows P.N)).map need).sum + (need (rows P.N g) + 0)
      omega
  · right
    have hwt := pappendO_wait P.s P.m (rows P.N g)
    rw [e] at hwt
    have hwt : m'.wait.length ≤ P.m.wait.length + need (rows P.N g) := hwt
    refine ⟨m', e, e3, e2, by rw [e4], fun kp => ⟨P.s.synced, Nat.le_refl _, hs.2, _, _, h.tells_old (e5 kp) (fun b hb _ => ?_)⟩, by have := h.waits; have := h.inv.ok.ring; have := room_le P.s; omega⟩
    rw [e] at hk
    rw [holds_crash_beyond hk.1 (by omega), hk.2 _ (by omega)]

/-- Sync. -/
theorem PInv.sync (h : PInv P C) :
    (∃ s' m', syncO P.s P.m = (0, s', m') ∧ PInv { P with s := s', m := m' } C ∧ s'.synced = C.length ∧ Fuels P.m m' ∧ s'.first = P.s.first ∧ m'.wait = [] ∧ m'.dur.length = P.m.dur.length ∧ s'.needs = P.s.needs) ∨
    (∃ m', syncO P.s P.m = (10, { P.s with dead := true }, m') ∧ P.m.fuel ≠ -1 ∧ Ends P C m') := by
  have hk := keeps_sync (s := P.s) (reg := P.reg) h.clear h.frm_lt
  have hs := h.syn
  have h1 := h.first1
  have hc := h.count
  have hlen : P.s.first + ((C.drop (P.s.first - 1)).map (rows P.N)).length - 1 = C.length := by rw [List.length_map, hc]; omega
  have hiff : P.s.synced + 1 = P.s.first + ((C.drop (P.s.first - 1)).map (rows P.N)).length ↔ P.s.synced = C.length := by rw [List.length_map, hc]; omega
  rcases h.inv.sync with ⟨m', e, hi, e2, e3, e4, e5, e6⟩ | ⟨m', e, e2, e3, e4, e5, e6⟩
  · left
    rw [hlen] at e hi
    rw [e] at hk
    simp only [hiff] at e4 e5 e6
    have hw : m'.wait = [] := by
      rcases e5 with e5 | e5
      · have := h.wait_none e5
        rw [this] at e2
        exact List.eq_nil_of_length_eq_zero (by simpa using e2)
      · exact e5
    refine ⟨_, m', e, ?_, rfl, ?_, rfl, hw, e3, rfl⟩
    · refine ⟨hi, h.frm, h.reg, h.fi, h.fine, hk.1, fun b hb ha => ?_, h.away, by show m'.wait.length ≤ _; rw [hw]; exact Nat.zero_le _, h.alive⟩
      show sec (holds m'.dur (P.reg + b)) = At (C.take (P.s.first - 1)) b
      have ha : Away ((C.take C.length).drop (P.s.first - 1)) b = none := ha
      rw [take_len] at ha
      rw [hk.2 _ (by omega)]
      exact h.home b hb (by rw [take_drop_syn]; exact Away_part ha)
    · by_cases hq : P.s.synced = C.length
      · rw [if_pos hq] at e4
        exact ⟨fun x => by rw [e4, x], fun x => by rw [e4]; exact x⟩
      · rw [if_neg hq] at e4
        rcases e6 with e6 | e6
        · exact absurd e6 hq
        · refine ⟨fun x => by rw [e4, x]; rfl, fun x => ?_⟩
          rw [e4]
          unfold spend
          split
          · omega
          · omega
  · right
    rw [e] at hk
    have hd : ∀ kp b, sec (holds (Dsk.crashD m'.wait kp m'.dur) (P.reg + b)) = sec (holds P.m.dur (P.reg + b)) := fun kp b => by
      rw [holds_crash_beyond hk.1 (by omega), hk.2 _ (by omega)]
    have hwt := psyncO_wait P.s P.m
    rw [e] at hwt
    have hwt : m'.wait.length ≤ P.m.wait.length + 1 := hwt
    refine ⟨m', e, e3, e2, e5, fun kp => ?_, by have := h.waits; omega⟩
    rw [hlen] at e6
    rcases e6 kp with h6 | h6
    · exact ⟨P.s.synced, Nat.le_refl _, hs.2, _, _, h.tells_old h6 (fun b _ _ => hd kp b)⟩
    · exact ⟨C.length, hs.2, Nat.le_refl _, _, _, by rw [take_len]; exact h.tells_new h6 (fun b _ _ => hd kp b)⟩

/-- The blocks that are written home, one behind the other. -/
def homes (P : PS) (k : Nat) : List (Nat × List Nat) := ((dirt P.N P.f).take k).map fun b => (P.reg + b, (P.f b).getD Z)
theorem homes_at {P : PS} {k : Nat} : ∀ p ∈ homes P k, ∃ b, b < P.N ∧ p.1 = P.reg + b ∧ (P.f b).isSome = true ∧ p.2 = (P.f b).getD Z := fun p hp => by
  obtain ⟨b, hb, rfl⟩ := List.mem_map.1 hp
  have := mem_dirt.1 (List.mem_of_mem_take hb)
  exact ⟨b, this.1, rfl, this.2, rfl⟩
theorem homes_succ {P : PS} {k : Nat} (hk : k < (dirt P.N P.f).length) : homes P (k + 1) = homes P k ++ [(P.reg + (dirt P.N P.f)[k], (P.f (dirt P.N P.f)[k]).getD Z)] := by
  unfold homes
  rw [List.take_succ_eq_append_getElem hk, List.map_append]
  rfl
/-- Behind some of the writes home, all commits synced: what is told stays, whatever a crash keeps. -/
theorem PInv.homing (h : PInv P C) (hs : P.s.synced = C.length) (k : Nat) (kp : List Bool) : Tells P.N P.reg (holds (Dsk.crashD (P.m.wait ++ homes P k) kp P.m.dur)) C P.s.start P.s.first := by
  have hw := h.wait_none hs
  rw [hw, List.nil_append]
  have h0 := h.safe []
  rw [hw, hs, take_len] at h0
  have h0 : Tells P.N P.reg (holds P.m.dur) C P.s.start P.s.first := h0
  have hreg : ∀ i, i < P.reg → holds (Dsk.crashD (homes P k) kp P.m.dur) i = holds P.m.dur i := fun i hi => holds_crash_other fun p hp => by
    obtain ⟨b, _, e, _, _⟩ := homes_at p hp
    omega
  have hst := h.inv.ok.ring0
  have hr := h.reg
  refine ⟨h0.found.congr (hreg 0 (by omega)) (fun q _ => hreg _ ?_), h0.first, fun b hb ha => ?_, h0.fine⟩
  · have := (sector_lt (s := slot 0 (P.reg - 1) P.s.start) (by show 0 < P.reg - 1; omega) q).2
    have e : (slot 0 (P.reg - 1) P.s.start).frm + 1 + (slot 0 (P.reg - 1) P.s.start).ring = 0 + 1 + (P.reg - 1) := rfl
    omega
  · rw [holds_crash_other (fun p hp => ?_)]
    · exact h0.home b hb ha
    · obtain ⟨c, _, e, hc, _⟩ := homes_at p hp
      rw [h.away] at hc
      intro e2
      obtain rfl : c = b := by omega
      rw [ha] at hc
      cases hc
/-- All blocks at home. -/
theorem homes_all (h : PInv P C) (hs : P.s.synced = C.length) {b : Nat} (hb : b < P.N) (hsz : P.m.dur.length = P.reg + P.N) : sec (holds (Dsk.apply (homes P (dirt P.N P.f).length) P.m.dur) (P.reg + b)) = At C b := by
  have e : C = C.take (P.s.first - 1) ++ C.drop (P.s.first - 1) := (List.take_append_drop _ _).symm
  have e0 : At C b = (P.f b).getD (At (C.take (P.s.first - 1)) b) := by
    rw [h.away]
    conv => lhs; rw [e, At_append]
  rw [e0]
  cases hf : P.f b with
  | none =>
    have ha : Away (C.drop (P.s.first - 1)) b = none := by rw [← h.away]; exact hf
    rw [holds_apply_other (fun p hp => ?_)]
    · exact h.home b hb (by rw [hs, take_len]; exact ha)
    · obtain ⟨c, _, e, hc, _⟩ := homes_at p hp
      intro e2
      obtain rfl : c = b := by omega
      rw [hf] at hc
      cases hc
  | some l =>
    have hl : Blk l := by
      have hf2 : Away (C.drop (P.s.first - 1)) b = some l := by rw [← h.away]; exact hf
      obtain ⟨g, hg, e2⟩ := Away_some hf2
      exact (h.fine g (List.mem_of_mem_drop hg) b l e2).2
    have key : ∀ (D : List Nat) (d : List (List Nat)), (∀ c ∈ D, c < P.N) → d.length = P.reg + P.N → (b ∈ D ∨ holds d (P.reg + b) = l) → holds (Dsk.apply (D.map fun b => (P.reg + b, (P.f b).getD Z)) d) (P.reg + b) = l := by
      intro D
      induction D with
      | nil =>
        intro d _ _ hd
        rcases hd with hd | hd
        · cases hd
        · exact hd
      | cons c r ih =>
        intro d hD hlen hd
        refine ih (d.set (P.reg + c) ((P.f c).getD Z)) (fun x hx => hD x (by simp [hx])) (by rw [List.length_set]; exact hlen) ?_
        by_cases hc : c = b
        · right
          subst hc
          rw [holds_set_same (by rw [hlen]; have := hD c (by simp); omega), hf]
          rfl
        · rcases hd with hd | hd
          · left
            rcases List.mem_cons.1 hd with h9 | h9
            · exact absurd h9.symm hc
            · exact h9
          · right
            rw [holds_set_other (by omega)]
            exact hd
    have := key (dirt P.N P.f) P.m.dur (fun c hc => (mem_dirt.1 hc).1) hsz (.inl (mem_dirt.2 ⟨hb, by rw [hf]; rfl⟩))
    unfold homes
    rw [List.take_length, this]
    exact sec_full hl.len
/-- Behind the writes home and a flush: as it was, and all blocks are at home. -/
theorem PInv.homed (h : PInv P C) (hs : P.s.synced = C.length) (hsz : P.m.dur.length = P.reg + P.N) {m' : Dsk.DM} (hd : m'.dur = Dsk.apply (homes P (dirt P.N P.f).length) P.m.dur) (hw : m'.wait = []) (hdead : m'.dead = false) :
    PInv { P with m := m' } C ∧ ∀ b, b < P.N → sec (holds m'.dur (P.reg + b)) = At C b := by
  have hall : ∀ b, b < P.N → sec (holds m'.dur (P.reg + b)) = At C b := fun b hb => by rw [hd]; exact homes_all h hs hb hsz
  have hlen : m'.dur.length = P.m.dur.length := by rw [hd, Dsk.apply_length]
  have hreg : ∀ i, i < P.reg → holds m'.dur i = holds P.m.dur i := fun i hi => by
    rw [hd]
    exact holds_apply_other fun p hp => by
      obtain ⟨b, _, e, _, _⟩ := homes_at p hp
      omega
  have hw0 := h.wait_none hs
  have hse : m'.seen = m'.dur := by show Dsk.apply m'.wait m'.dur = _; rw [hw]; rfl
  have hso : P.m.seen = P.m.dur := by show Dsk.apply P.m.wait P.m.dur = _; rw [hw0]; rfl
  refine ⟨⟨?_, h.frm, h.reg, h.fi, h.fine, by show ∀ p ∈ m'.wait, _; rw [hw]; exact fun p hp => (by cases hp), fun b hb ha => ?_, h.away, by show m'.wait.length ≤ _; rw [hw]; exact Nat.zero_le _, h.alive⟩, hall⟩
  · have i := h.inv
    refine ⟨i.ok, i.up, hdead, by show _ ≤ m'.dur.length; rw [hlen]; exact i.size, i.needs, i.syn1, i.syn2, fun k B hk => ?_, fun kp => ?_⟩
    · show Lies P.s (holds m'.seen) _ _ B
      rw [hse]
      refine (i.live k B hk).congr rfl rfl rfl (fun j _ => ?_)
      rw [hso]
      exact hreg _ (h.sectors _)
    · show Wal.Found P.s.frm P.s.ring (holds (Dsk.crashD m'.wait kp m'.dur)) _ _ _ _
      rw [hw]
      have h9 := i.safe []
      rw [hw0] at h9
      exact h9.congr (hreg _ h.frm_lt) (fun q _ => hreg _ (h.sectors q))
  · show sec (holds m'.dur (P.reg + b)) = At (C.take (P.s.first - 1)) b
    rw [hall b hb]
    have e : C = C.take (P.s.first - 1) ++ C.drop (P.s.first - 1) := (List.take_append_drop _ _).symm
    have ha : Away ((C.take P.s.synced).drop (P.s.first - 1)) b = none := ha
    rw [hs, take_len] at ha
    conv => lhs; rw [e, At_append, ha]
    rfl
/-- All batches are trimmed. -/
theorem PInv.trim (h : PInv P C) (hs : P.s.synced = C.length) (hall : ∀ b, b < P.N → sec (holds P.m.dur (P.reg + b)) = At C b) (hne : P.s.first ≤ C.length) (hC : C.length < 1152921504606846976) :
    (∃ s' m', trimO P.s P.m (C.length : Int) = (0, s', m') ∧ PInv { P with s := s', m := m', f := fun _ => none } C ∧ s'.synced = C.length ∧ Fuels P.m m' ∧ s'.needs = [] ∧ m'.dur.length = P.m.dur.length) ∨
    (∃ m', trimO P.s P.m (C.length : Int) = (10, { P.s with dead := true }, m') ∧ P.m.fuel ≠ -1 ∧ Ends P C m') := by
  have hk := keeps_trim (s := P.s) (reg := P.reg) h.clear h.frm_lt (C.length : Int)
  have h1 := h.first1
  have hc := h.count
  obtain ⟨k, hkk⟩ : ∃ k, k = C.length + 1 - P.s.first := ⟨_, rfl⟩
  have hup : (P.s.first : Int) + k - 1 = (C.length : Int) := by omega
  have hBl : ((C.drop (P.s.first - 1)).map (rows P.N)).length = k := by rw [List.length_map]; omega
  have hdk : ((C.drop (P.s.first - 1)).map (rows P.N)).drop k = [] := by rw [List.drop_eq_nil_iff]; omega
  have hw := h.wait_none hs
  rcases h.inv.trim (k := k) (by omega) (by omega) (by omega) with ⟨m', s', e, es, hi, e2, e3, e4⟩ | ⟨m', e, e2, e3, e4, e5⟩
  · left
    rw [hup] at e
    rw [e] at hk
    have hf' : s'.first = C.length + 1 := by rw [es]; show P.s.first + k = _; omega
    have hs' : s'.synced = C.length := by rw [es]; exact hs
    have hdn : C.drop (s'.first - 1) = [] := by rw [List.drop_eq_nil_iff]; omega
    refine ⟨s', m', e, ?_, hs', ?_, ?_, e3⟩
    · refine ⟨?_, by rw [es]; exact h.frm, by rw [es]; exact h.reg, by show s'.first ≤ _; omega, h.fine, hk.1, fun b hb _ => ?_, ?_, by show m'.wait.length ≤ _; rw [e2]; exact Nat.zero_le _, h.alive⟩
      · show Inv s' m' ((C.drop (s'.first - 1)).map (rows P.N))
        rw [hdn]
        rw [hdk] at hi
        exact hi
      · show sec (holds m'.dur (P.reg + b)) = At (C.take (s'.first - 1)) b
        rw [hk.2 _ (by omega), hall b hb, hf', Nat.add_sub_cancel, take_len]
      · show (fun _ => none) = Away (C.drop (s'.first - 1))
        rw [hdn]
        rfl
    · refine ⟨fun x => by rw [e4, x]; rfl, fun x => ?_⟩
      rw [e4]
      rcases tell_cases (s := P.s) (m := P.m) ((P.s.start + (P.s.needs.take k).sum) % P.s.ring) (C.length + 1) P.s.synced h.inv.up h.inv.alive (by have := h.inv.size; omega) with ⟨q1, q2, _⟩ | ⟨q1, q3⟩ | ⟨q1, q3⟩
      · unfold spend
        split
        · omega
        · omega
      · exfalso
        have : (trimO P.s P.m (C.length : Int)).1 = 10 := by
          have es : ({ P.s with dead := P.s.dead || P.m.dead } : LS) = P.s := by rw [h.inv.up, h.inv.alive]; exact up_eq h.inv.up
          unfold trimO
          rw [es, h.inv.up, h.inv.alive, if_neg (by simp), if_neg (by omega), if_neg (by omega)]
          dsimp only
          rw [show ((C.length : Int) - P.s.first + 1).toNat = k by omega, show ((C.length : Int) + 1).toNat = C.length + 1 by omega, q3]
          rw [if_pos (by simp)]
        rw [e] at this
        cases this
      · exfalso
        have : (trimO P.s P.m (C.length : Int)).1 = 10 := by
          have es : ({ P.s with dead := P.s.dead || P.m.dead } : LS) = P.s := by rw [h.inv.up, h.inv.alive]; exact up_eq h.inv.up
          unfold trimO
          rw [es, h.inv.up, h.inv.alive, if_neg (by simp), if_neg (by omega), if_neg (by omega)]
          dsimp only
          rw [show ((C.length : Int) - P.s.first + 1).toNat = k by omega, show ((C.length : Int) + 1).toNat = C.length + 1 by omega, q3]
          rw [if_pos (by simp)]
        rw [e] at this
        cases this
    · rw [es]
      show P.s.needs.drop k = []
      rw [h.inv.needs, List.drop_eq_nil_iff, List.length_map, hBl]
      exact Nat.le_refl _
  · right
    rw [hup] at e
    rw [e] at hk
    have hd : ∀ kp b, sec (holds (Dsk.crashD m'.wait kp m'.dur) (P.reg + b)) = sec (holds P.m.dur (P.reg + b)) := fun kp b => by
      rw [holds_crash_beyond hk.1 (by omega), hk.2 _ (by omega)]
    have hwt := ptrimO_wait P.s P.m (C.length : Int)
    rw [e] at hwt
    have hwt : m'.wait.length ≤ P.m.wait.length + 1 := hwt
    refine ⟨m', e, e3, e2, e4, fun kp => ⟨C.length, h.syn.2, Nat.le_refl _, ?_⟩, by have := h.waits; omega⟩
    rcases e5 kp with h6 | h6
    · have := h.tells_old h6 (fun b _ _ => hd kp b)
      rw [hs] at this
      exact ⟨_, _, this⟩
    · refine ⟨(P.s.start + ((((C.drop (P.s.first - 1)).map (rows P.N)).take k).map need).sum) % P.s.ring, P.s.first + k, ?_, ?_, fun b hb _ => ?_, fun g hg => h.fine g (List.mem_of_mem_take hg)⟩
      · rw [h.frm, hs, show P.s.ring = P.reg - 1 by have := h.reg; omega] at h6
        rw [take_len]
        have hz : C.drop (P.s.first + k - 1) = [] := by rw [List.drop_eq_nil_iff]; omega
        rw [hz]
        have hz2 : (((C.drop (P.s.first - 1)).map (rows P.N)).take (C.length + 1 - P.s.first)).drop k = [] := by
          rw [List.drop_eq_nil_iff, List.length_take]; omega
        rw [hz2] at h6
        rw [show P.s.ring = P.reg - 1 by have := h.reg; omega]
        exact h6
      · rw [take_len]; omega
      · rw [hd, hall b hb, take_len, List.take_of_length_le (by omega)]
end
end Pgr
end Go.Proofs.YtkajneeihhobhaaGreat
