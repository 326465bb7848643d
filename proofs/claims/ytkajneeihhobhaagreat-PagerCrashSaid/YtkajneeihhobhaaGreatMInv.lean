/-
  wal: what is found on a disk; sectors that are written one behind the other; what a crash leaves of them. · wal: the contracts of Open. · wal: what its calls' models leave of the log and its disk, where all goes well, and where the disk dies. · wal: a log beside its disk, behind Make, Append, Sync, Trim, Open and a crash. · wal: a log beside its disk, behind Trim, Make, Open.
-/
import Derived.Test.YtkajneeihhobhaaGreatMReadB
import Derived.Test.YtkajneeihhobhaaGreatMRows
import Derived.Test.YtkajneeihhobhaaGreatMSync
namespace Go.Proofs.YtkajneeihhobhaaGreat
open Wal

namespace Dsk
theorem apply_eq_crashD (w : List (Nat × List Nat)) : ∀ d, apply w d = crashD w (List.replicate w.length true) d := by
  induction w with
  | nil => intro d; rfl
  | cons p r ih =>
    intro d
    simp only [crashD, List.length_cons, List.replicate_succ, List.headD_cons, List.tail_cons, if_true]
    rw [← ih]
    rfl
end Dsk

namespace Wal
theorem sector_lt {s : LS} (h : 0 < s.ring) (q : Nat) : s.frm < sector s q ∧ sector s q < s.frm + 1 + s.ring := by
  unfold sector
  have := Nat.mod_lt (s.start + q) h
  omega
theorem mod_ne {a b r : Nat} (h1 : a < b) (h2 : b < a + r) : a % r ≠ b % r := by
  intro e
  have h3 := Nat.sub_mod_eq_zero_of_mod_eq e.symm
  rw [Nat.mod_eq_of_lt (by omega)] at h3
  omega
theorem sector_ne {s : LS} {p q : Nat} (h1 : p < q) (h2 : q < p + s.ring) : sector s p ≠ sector s q := by
  unfold sector
  have := mod_ne (a := s.start + p) (b := s.start + q) (r := s.ring) (by omega) (by omega)
  omega

/-- Sectors of the ring, from a place on, and what is written there. -/
def laid (s : LS) : Nat → List (List Nat) → List (Nat × List Nat)
  | _, [] => []
  | p, l :: r => (sector s p, l) :: laid s (p + 1) r
theorem laid_length (s : LS) : ∀ (ls : List (List Nat)) (p : Nat), (laid s p ls).length = ls.length
  | [], _ => rfl
  | _ :: r, p => by simp [laid, laid_length s r (p + 1)]
theorem laid_snoc (s : LS) (l : List Nat) : ∀ (ls : List (List Nat)) (p : Nat), laid s p (ls ++ [l]) = laid s p ls ++ [(sector s (p + ls.length), l)]
  | [], p => rfl
  | a :: r, p => by
    simp only [List.cons_append, laid, laid_snoc s l r (p + 1), List.length_cons]
    rw [show p + 1 + r.length = p + (r.length + 1) by omega]
theorem laid_at (s : LS) : ∀ (ls : List (List Nat)) (p : Nat) (x : Nat × List Nat), x ∈ laid s p ls → ∃ i, i < ls.length ∧ x.1 = sector s (p + i) ∧ x.2 ∈ ls
  | [], _, x, h => by cases h
  | l :: r, p, x, h => by
    rcases List.mem_cons.1 h with rfl | h
    · exact ⟨0, by simp, rfl, by simp⟩
    · obtain ⟨i, h1, h2, h3⟩ := laid_at s r (p + 1) x h
      exact ⟨i + 1, by simp; omega, by rw [h2]; congr 1; omega, List.mem_cons_of_mem _ h3⟩
theorem laid_take (s : LS) : ∀ (ls : List (List Nat)) (p j : Nat), (laid s p ls).take j = laid s p (ls.take j)
  | [], _, _ => by simp [laid]
  | l :: r, p, 0 => by simp [laid]
  | l :: r, p, j + 1 => by simp [laid, laid_take s r (p + 1) j]
theorem apply_laid {s : LS} : ∀ (ls : List (List Nat)) (p : Nat) (d : List (List Nat)), ls.length ≤ s.ring → (∀ q, sector s q < d.length) → ∀ i l, ls[i]? = some l → (Dsk.apply (laid s p ls) d)[sector s (p + i)]? = some l
  | [], _, _, _, _, i, l, h => by simp at h
  | a :: r, p, d, hr, hd, i, l, h => by
    simp only [List.length_cons] at hr
    have e : Dsk.apply (laid s p (a :: r)) d = Dsk.apply (laid s (p + 1) r) (d.set (sector s p) a) := rfl
    rw [e]
    rcases i with _ | i
    · obtain rfl : a = l := by simpa using h
      rw [Dsk.apply_other]
      · rw [Nat.add_zero, List.getElem?_set_self (hd p)]
      · intro x hx
        obtain ⟨j, h1, h2, _⟩ := laid_at s r (p + 1) x hx
        rw [h2]
        exact (sector_ne (s := s) (by omega) (by omega)).symm
    · have := apply_laid (s := s) r (p + 1) (d.set (sector s p) a) (by omega) (fun q => by rw [List.length_set]; exact hd q) i l (by simpa using h)
      rw [show p + (i + 1) = p + 1 + i by omega]
      exact this

/-- Where the batches of a log lie. -/
def slot (frm ring st : Nat) : LS := { frm := frm, ring := ring, start := st, first := 0, synced := 0, needs := [], dead := false }
/-- The batches lie on the sectors, from a place on. -/
structure Laid (frm ring : Nat) (V : Nat → List Nat) (st fi sy : Nat) (Bs : List (List (List Nat))) : Prop where
  start : st < ring
  first : 1 ≤ fi
  count : sy + 1 = fi + Bs.length
  room : (Bs.map need).sum ≤ ring
  lies : ∀ k B, Bs[k]? = some B → Lies (slot frm ring st) V ((Bs.take k).map need).sum (fi + k) B
/-- What the sectors tell of a log. -/
structure Found (frm ring : Nat) (V : Nat → List Nat) (st fi sy : Nat) (Bs : List (List (List Nat))) : Prop extends Laid frm ring V st fi sy Bs where
  told : sec (V frm) = sec (Wal.told frm ring st fi sy)
/-- What the sectors of a disk hold. -/
def holds (d : List (List Nat)) (i : Nat) : List Nat := d.getD i []

theorem sum_take_next (Bs : List (List (List Nat))) {k : Nat} {B : List (List Nat)} (h : Bs[k]? = some B) : ((Bs.take k).map need).sum + need B ≤ (Bs.map need).sum ∧ ((Bs.take (k + 1)).map need).sum = ((Bs.take k).map need).sum + need B := by
  have e : Bs.take (k + 1) = Bs.take k ++ [B] := by rw [List.take_add_one, h]; rfl
  have h1 : ((Bs.take (k + 1)).map need).sum = ((Bs.take k).map need).sum + need B := by rw [e]; simp
  have h2 := sum_take_le (Bs.map need) (k + 1)
  rw [← List.map_take] at h2
  exact ⟨by omega, h1⟩
theorem Lies.congr {s s' : LS} {V V' : Nat → List Nat} {p n : Nat} {B : List (List Nat)} (h : Lies s V p n B) (e1 : s'.frm = s.frm) (e2 : s'.ring = s.ring) (e3 : s'.start = s.start) (hV : ∀ i, i < need B → V' (sector s (p + i)) = V (sector s (p + i))) : Lies s' V' p n B := by
  have es : ∀ q, sector s' q = sector s q := fun q => by unfold sector; rw [e1, e2, e3]
  exact ⟨by rw [e2]; exact h.fits, h.good, h.bytes, fun i hi => by rw [es, hV i hi]; exact h.at_ i hi⟩
theorem Laid.congr {frm ring st fi sy : Nat} {V V' : Nat → List Nat} {Bs : List (List (List Nat))} (h : Laid frm ring V st fi sy Bs) (hV : ∀ q, q < (Bs.map need).sum → V' (sector (slot frm ring st) q) = V (sector (slot frm ring st) q)) : Laid frm ring V' st fi sy Bs :=
  ⟨h.start, h.first, h.count, h.room, fun k B hB => (h.lies k B hB).congr rfl rfl rfl (fun i hi => hV _ (by have := (sum_take_next Bs hB).1; omega))⟩
theorem Found.congr {frm ring st fi sy : Nat} {V V' : Nat → List Nat} {Bs : List (List (List Nat))} (h : Found frm ring V st fi sy Bs) (h0 : V' frm = V frm) (hV : ∀ q, q < (Bs.map need).sum → V' (sector (slot frm ring st) q) = V (sector (slot frm ring st) q)) : Found frm ring V' st fi sy Bs :=
  ⟨h.toLaid.congr hV, by rw [h0]; exact h.told⟩
/-- The first k of the batches are trimmed. -/
theorem Laid.trim {frm ring st fi sy k : Nat} {V : Nat → List Nat} {Bs : List (List (List Nat))} (h : Laid frm ring V st fi sy Bs) (hk : k ≤ Bs.length) : Laid frm ring V ((st + ((Bs.take k).map need).sum) % ring) (fi + k) sy (Bs.drop k) := by
  have hr : 0 < ring := by have := h.start; omega
  refine ⟨Nat.mod_lt _ hr, by have := h.first; omega, by have := h.count; rw [List.length_drop]; omega, ?_, fun j B hB => ?_⟩
  · have h1 := h.room
    have h2 : (Bs.map need).sum = ((Bs.take k).map need).sum + ((Bs.drop k).map need).sum := by rw [← List.sum_append, ← List.map_append, List.take_append_drop]
    omega
  · rw [List.getElem?_drop] at hB
    have h1 := h.lies (k + j) B hB
    have e1 : ((Bs.take (k + j)).map need).sum = ((Bs.take k).map need).sum + (((Bs.drop k).take j).map need).sum := by
      rw [← List.sum_append, ← List.map_append, List.take_add]
    have e2 : ∀ q, sector (slot frm ring ((st + ((Bs.take k).map need).sum) % ring)) q = sector (slot frm ring st) (((Bs.take k).map need).sum + q) := fun q => by
      unfold sector slot
      dsimp only
      rw [Nat.mod_add_mod, Nat.add_assoc st]
    refine ⟨?_, h1.good, h1.bytes, fun i hi => ?_⟩
    · have := h1.fits
      rw [e1] at this
      show _ ≤ ring
      have h9 : (slot frm ring st).ring = ring := rfl
      omega
    · rw [e2, ← Nat.add_assoc, ← e1, Nat.add_assoc fi k j]
      exact h1.at_ i hi

/-- A log as it stands beside its disk: Bs are its batches from the first to the last. -/
structure Inv (s : LS) (m : Dsk.DM) (Bs : List (List (List Nat))) : Prop where
  ok : s.Ok
  up : s.dead = false
  alive : m.dead = false
  size : s.frm + 1 + s.ring ≤ m.dur.length
  needs : s.needs = Bs.map need
  syn1 : s.first ≤ s.synced + 1
  syn2 : s.synced + 1 ≤ s.first + Bs.length
  live : ∀ k B, Bs[k]? = some B → Lies s (holds m.seen) ((Bs.take k).map need).sum (s.first + k) B
  safe : ∀ kp, Found s.frm s.ring (holds (Dsk.crashD m.wait kp m.dur)) s.start s.first s.synced (Bs.take (s.synced + 1 - s.first))

section
variable {s : LS} {m : Dsk.DM} {Bs : List (List (List Nat))}
theorem Inv.last (h : Inv s m Bs) : s.last = ((s.first + Bs.length : Nat) : Int) - 1 := by
  unfold LS.last
  rw [h.needs, List.length_map]
  omega
theorem Inv.sum (h : Inv s m Bs) : s.needs.sum = (Bs.map need).sum := by rw [h.needs]
theorem Inv.sector_in (h : Inv s m Bs) (q : Nat) : sector s q < m.dur.length := by
  have := (sector_lt h.ok.ring0 q).2
  have := h.size
  omega
theorem Inv.seen (h : Inv s m Bs) : Found s.frm s.ring (holds m.seen) s.start s.first s.synced (Bs.take (s.synced + 1 - s.first)) := by
  have := h.safe (List.replicate m.wait.length true)
  rw [← Dsk.apply_eq_crashD] at this
  exact this
theorem holds_set_other {d : List (List Nat)} {i j : Nat} {l : List Nat} (h : i ≠ j) : holds (d.set i l) j = holds d j := by
  unfold holds
  rw [List.getD_eq_getElem?_getD, List.getD_eq_getElem?_getD, List.getElem?_set_ne h]
theorem holds_set_same {d : List (List Nat)} {i : Nat} {l : List Nat} (h : i < d.length) : holds (d.set i l) i = l := by
  unfold holds
  rw [List.getD_eq_getElem?_getD, List.getElem?_set_self h]
  rfl
theorem holds_apply_other {w : List (Nat × List Nat)} {d : List (List Nat)} {i : Nat} (h : ∀ p ∈ w, p.1 ≠ i) : holds (Dsk.apply w d) i = holds d i := by
  unfold holds
  rw [List.getD_eq_getElem?_getD, List.getD_eq_getElem?_getD, Dsk.apply_other w i d h]
theorem crashD_append (w v : List (Nat × List Nat)) : ∀ (k : List Bool) (d : List (List Nat)), Dsk.crashD (w ++ v) k d = Dsk.crashD v (k.drop w.length) (Dsk.crashD w k d) := by
  induction w with
  | nil => intro k d; simp [Dsk.crashD]
  | cons p r ih =>
    intro k d
    simp only [List.cons_append, Dsk.crashD, List.length_cons]
    rw [ih]
    congr 1
    cases k <;> simp
theorem holds_crash_other {w : List (Nat × List Nat)} {k : List Bool} {d : List (List Nat)} {i : Nat} (h : ∀ p ∈ w, p.1 ≠ i) : holds (Dsk.crashD w k d) i = holds d i := by
  unfold holds
  rw [List.getD_eq_getElem?_getD, List.getD_eq_getElem?_getD, Dsk.crashD_other w i k d h]
/-- Writes that go to places behind what is told of change nothing of that. -/
theorem Found.beside {frm ring st fi sy p : Nat} {d : List (List Nat)} {Bs : List (List (List Nat))} {ls : List (List Nat)} (h : Found frm ring (holds d) st fi sy Bs) (hp : (Bs.map need).sum ≤ p) (hr : p + ls.length ≤ ring) (k : List Bool) :
    Found frm ring (holds (Dsk.crashD (laid (slot frm ring st) p ls) k d)) st fi sy Bs := by
  have hr0 : 0 < ring := by have := h.start; omega
  refine h.congr (holds_crash_other fun x hx => ?_) (fun q hq => holds_crash_other fun x hx => ?_)
  · obtain ⟨i, _, h2, _⟩ := laid_at _ _ _ x hx
    have := (sector_lt (s := slot frm ring st) hr0 (p + i)).1
    have h9 : (slot frm ring st).frm = frm := rfl
    omega
  · obtain ⟨i, h1, h2, _⟩ := laid_at _ _ _ x hx
    rw [h2]
    exact (sector_ne (s := slot frm ring st) (by omega) (by show _ < _ + ring; omega)).symm
theorem laid_congr {s s' : LS} (e1 : s'.frm = s.frm) (e2 : s'.ring = s.ring) (e3 : s'.start = s.start) : ∀ (ls : List (List Nat)) (p : Nat), laid s' p ls = laid s p ls
  | [], _ => rfl
  | l :: r, p => by
    have es : sector s' p = sector s p := by unfold sector; rw [e1, e2, e3]
    simp only [laid, es, laid_congr e1 e2 e3 r (p + 1)]
end
end Wal
end Go.Proofs.YtkajneeihhobhaaGreat

namespace Go.Proofs.YtkajneeihhobhaaGreat
open Go.RowKit Wal

theorem Below.only_nil {w w' : World} (h : Below w.heap.size w w') (F : List Nat) : Only F w w' := Only.of_below h

set_option maxRecDepth 100000 in
set_option maxHeartbeats 800000 in
/-- readTold, where the disk is dead. -/
theorem readTold_dead (w : World) (b d : Nat) (s : LS) (G F : List Nat) (m : Dsk.DM) (h : LD w b G s d F m) (he : m.readErr s.frm = 10) :
    Calls Tryz.prog 71 #[.pointer (some ⟨b, 0, none⟩)] w fun e w' => e = .returned (.int .i64 10) ∧ Below w.heap.size w w' := by
  have H := Lib.hid h
  obtain ⟨vn, hl, hG⟩ := h.log
  have blt := hl.lt
  have c0 := hl.c0
  have c1 := hl.c1
  have RD : Hid (∀ u, DiskAt u d F m → Calls Tryz.prog 74 #[.pointer (some ⟨d, 0, none⟩), .int .i64 (s.frm : Int)] u fun e w' => e = .returned (.tuple #[.slice none 0 0, .int .i64 10]) ∧ Below u.heap.size u w') := fun u hu => by
    refine (read_any u d F m s.frm hu).mono ?_
    intro e w' ht
    rcases ht with ⟨_, h2, h3⟩ | ⟨h1, _⟩
    · rw [he] at h2
      exact ⟨h2, h3⟩
    · rw [he] at h1
      cases h1
  clear h hl he
  go_enter Tryz.func71, Tryz.ntmps71
  go_upto_region 1 with fail
  go_cut [4] (fun ev wc => ev = .int .i64 10 ∧ Below w.heap.size w wc)
  case first =>
    refine wp_region_noPanic ?_
    refine wp_region_held_drew (S := fun w' => w'.cell? ⟨b, 0, none⟩ = some (.pointer (some ⟨d, 0, none⟩)) ∧ w'.cell? ⟨b, 1, none⟩ = some (.int .i64 (s.frm : Int))) (by kernel_rfl) ⟨c0, c1⟩ (fun hHeld => ?_)
    refine take_ (i := 0) (v := ?_) 8 rfl rfl (by kernel_rfl) (by kernel_rfl) (by kernel_rfl) (fun _ _ _ h => h) (Or.inl ⟨by rfl, ?_⟩) (by assumption) ?_
    rotate_left
    · (intro wS hSw; (try dsimp only at hSw); go_simp; try with_reducible rfl)
    simp only [Act.put, List.setIfInBounds_toArray, List.set_cons_zero, List.set_cons_succ]
    refine take_ (i := 1) (v := ?_) 9 rfl rfl (by kernel_rfl) (by kernel_rfl) (by kernel_rfl) (fun _ _ _ h => h) (Or.inl ⟨by rfl, ?_⟩) (by assumption) ?_
    rotate_left
    · (intro wS hSw; (try dsimp only at hSw); go_simp; try with_reducible rfl)
    simp only [Act.put, List.setIfInBounds_toArray, List.set_cons_zero, List.set_cons_succ]
    refine take_ (i := 2) (v := ?_) 10 rfl rfl (by kernel_rfl) (by kernel_rfl) (by kernel_rfl) (fun _ _ _ h => h) (Or.inl ⟨by rfl, ?_⟩) (by assumption) ?_
    rotate_left
    · (intro wS hSw; (try dsimp only at hSw); go_simp; try with_reducible rfl)
    simp only [Act.put, List.setIfInBounds_toArray, List.set_cons_zero, List.set_cons_succ]
    refine take_ (i := 3) (v := ?_) 11 rfl rfl (by kernel_rfl) (by kernel_rfl) (by kernel_rfl) (fun _ _ _ h => h) (Or.inl ⟨by rfl, ?_⟩) (by assumption) ?_
    rotate_left
    · (intro wS hSw; (try dsimp only at hSw); go_simp; try with_reducible rfl)
    simp only [Act.put, List.setIfInBounds_toArray, List.set_cons_zero, List.set_cons_succ]
    refine take_ (i := 4) (v := ?_) 12 rfl rfl (by kernel_rfl) (by kernel_rfl) (by kernel_rfl) (fun _ _ _ h => h) (Or.inl ⟨by rfl, ?_⟩) (by assumption) ?_
    rotate_left
    · (intro wS hSw; (try dsimp only at hSw); go_simp; try with_reducible rfl)
    simp only [Act.put, List.setIfInBounds_toArray, List.set_cons_zero, List.set_cons_succ]
    refine take_ (i := 5) (v := ?_) 13 rfl rfl (by kernel_rfl) (by kernel_rfl) (by kernel_rfl) (fun _ _ _ h => h) (Or.inl ⟨by rfl, ?_⟩) (by assumption) ?_
    rotate_left
    · (intro wS hSw; (try dsimp only at hSw); go_simp; try with_reducible rfl)
    simp only [Act.put, List.setIfInBounds_toArray, List.set_cons_zero, List.set_cons_succ]
    refine take_ (i := 6) (v := ?_) 14 rfl rfl (by kernel_rfl) (by kernel_rfl) (by kernel_rfl) (fun _ _ _ h => h) (Or.inl ⟨by rfl, ?_⟩) (by assumption) ?_
    rotate_left
    · (intro wS hSw; (try dsimp only at hSw); go_simp; try with_reducible rfl)
    simp only [Act.put, List.setIfInBounds_toArray, List.set_cons_zero, List.set_cons_succ]
    refine take_ (i := 7) (v := ?_) 15 rfl rfl (by kernel_rfl) (by kernel_rfl) (by kernel_rfl) (fun _ _ _ h => h) (Or.inl ⟨by rfl, ?_⟩) (by assumption) ?_
    rotate_left
    · (intro wS hSw; (try dsimp only at hSw); go_simp; try with_reducible rfl)
    simp only [Act.put, List.setIfInBounds_toArray, List.set_cons_zero, List.set_cons_succ]
    refine two_ (i := 8) (j := 12) _ _ (by kernel_rfl) rfl rfl (fun K hK => ?_) (fun K hK => ?_)
    · go_simp
      refine (RD.out _ H.out.disk.drew).mono ?_
      rintro e w1 ⟨rfl, hb⟩
      have S1 : w1.cell? ⟨b, 0, none⟩ = some (.pointer (some ⟨d, 0, none⟩)) ∧ w1.cell? ⟨b, 1, none⟩ = some (.int .i64 (s.frm : Int)) := ⟨(hb.cell (p := ⟨b, 0, none⟩) blt).trans c0, (hb.cell (p := ⟨b, 1, none⟩) blt).trans c1⟩
      have BB : Hid (Below w.heap.size w w1) := (Below.refl _ _).drew.trans hb
      have LT : b < w1.heap.size := Nat.lt_of_lt_of_le blt BB.out.size
      clear hb
      go_wp2_with fail
      refine hK.out _ _ S1 (fun hHeld => ?_)
      clear hK K
      refine take_ (i := 9) (v := ?_) 7 rfl rfl (by kernel_rfl) (by kernel_rfl) (by kernel_rfl) (fun _ _ _ h => h) (Or.inl ⟨by rfl, ?_⟩) (by assumption) ?_
      rotate_left
      · (intro wS hSw; (try dsimp only at hSw); go_simp; try with_reducible rfl)
      simp only [Act.put, List.setIfInBounds_toArray, List.set_cons_zero, List.set_cons_succ]
      refine take_ (i := 10) (v := ?_) 17 rfl rfl (by kernel_rfl) (by kernel_rfl) (by kernel_rfl) (fun _ _ _ h => h) (Or.inl ⟨by rfl, ?_⟩) (by assumption) ?_
      rotate_left
      · (intro wS hSw; (try dsimp only at hSw); go_simp; try with_reducible rfl)
      simp only [Act.put, List.setIfInBounds_toArray, List.set_cons_zero, List.set_cons_succ]
      refine take_ (i := 11) (v := ?_) 18 rfl rfl (by kernel_rfl) (by kernel_rfl) (by kernel_rfl) (fun _ _ _ h => h) (Or.inl ⟨by rfl, ?_⟩) (by assumption) ?_
      rotate_left
      · (intro wS hSw; (try dsimp only at hSw); go_simp; try with_reducible rfl)
      simp only [Act.put, List.setIfInBounds_toArray, List.set_cons_zero, List.set_cons_succ]
      refine one_ (i := 12) _ (by kernel_rfl) rfl (fun K hK => ?_)
      go_simp
      refine hK.out _ _ ⟨(World.cell?_alloc_past _ _ _ LT).trans S1.1, (World.cell?_alloc_past _ _ _ LT).trans S1.2⟩ (fun hHeld => ?_)
      clear hK K
      refine one_ (i := 13) _ (by kernel_rfl) rfl (fun K hK => ?_)
      go_simp
      refine hK.out _ _ ⟨by simpa [World.cell?_alloc_past, LT] using S1.1, by simpa [World.cell?_alloc_past, LT] using S1.2⟩ (fun hHeld => ?_)
      clear hK K
      refine take_ (i := 14) (v := ?_) 4 rfl rfl (by kernel_rfl) (by kernel_rfl) (by kernel_rfl) (fun _ _ _ h => h) (Or.inl ⟨by rfl, ?_⟩) (by assumption) ?_
      rotate_left
      · (intro wS hSw; (try dsimp only at hSw); go_simp; try with_reducible rfl)
      simp only [Act.put, List.setIfInBounds_toArray, List.set_cons_zero, List.set_cons_succ]
      refine wpAnyH_done (by kernel_rfl) ?_ _
      refine NoPanic.normal ?_
      go_wp2_with fail
      go_meet
      case rel => exact ⟨rfl, BB.out.trans ((Below.refl _ _).alloc BB.out.size _)⟩
    · go_simp
      have LT0 : b < (w.alloc (Obj.cells #[Value.slice none 0 0] 56)).drew.heap.size := by simp; omega
      have S0 : (w.alloc (Obj.cells #[Value.slice none 0 0] 56)).drew.cell? ⟨b, 0, none⟩ = some (.pointer (some ⟨d, 0, none⟩)) ∧ (w.alloc (Obj.cells #[Value.slice none 0 0] 56)).drew.cell? ⟨b, 1, none⟩ = some (.int .i64 (s.frm : Int)) := ⟨(World.cell?_alloc_past _ _ _ blt).trans c0, (World.cell?_alloc_past _ _ _ blt).trans c1⟩
      refine hK.out _ _ S0 (fun hHeld => ?_)
      clear hK K
      have HB := Held.new w 56 #[.slice none 0 0] rfl
      have HQ0 : Hid (Held (w.alloc (Obj.cells #[Value.slice none 0 0] 56)).drew w.heap.size 56 #[.slice none 0 0]) := HB
      have DK := Lib.hid ((H.out.disk.alloc (Obj.cells #[Value.slice none 0 0] 56)).drew)
      have B0 : Hid (Below w.heap.size w (w.alloc (Obj.cells #[Value.slice none 0 0] 56)).drew) := ((Below.refl _ _).alloc (Nat.le_refl _) _).drew
      have ZS : Hid ((w.alloc (Obj.cells #[Value.slice none 0 0] 56)).drew.heap.size = w.heap.size + 1) := by show _ = _; simp
      clear HB
      generalize (w.alloc (Obj.cells #[Value.slice none 0 0] 56)).drew = wz at *
      refine one_ (i := 8) _ (by kernel_rfl) rfl (fun K hK => ?_)
      go_simp
      refine (RD.out _ DK.out).mono ?_
      rintro e w1 ⟨rfl, hb⟩
      have S1 : w1.cell? ⟨b, 0, none⟩ = some (.pointer (some ⟨d, 0, none⟩)) ∧ w1.cell? ⟨b, 1, none⟩ = some (.int .i64 (s.frm : Int)) := ⟨(hb.cell (p := ⟨b, 0, none⟩) LT0).trans S0.1, (hb.cell (p := ⟨b, 1, none⟩) LT0).trans S0.2⟩
      have BB : Hid (Below w.heap.size w w1) := B0.out.trans (hb.mono B0.out.size)
      have HQ1 := HQ0.out.below hb (by have := ZS.out; omega)
      have q0 := HQ1.cell 0
      have qf := HQ1.frozen 0
      have bq : b ≠ w.heap.size := by omega
      clear hb HQ1
      go_wp2_with fail
      refine hK.out _ _ S1 (fun hHeld => ?_)
      clear hK K
      refine take_ (i := 9) (v := ?_) 7 rfl rfl (by kernel_rfl) (by kernel_rfl) (by kernel_rfl) (fun _ _ _ h => h) (Or.inl ⟨by rfl, ?_⟩) (by assumption) ?_
      rotate_left
      · (intro wS hSw; (try dsimp only at hSw); go_simp; try with_reducible rfl)
      simp only [Act.put, List.setIfInBounds_toArray, List.set_cons_zero, List.set_cons_succ]
      refine take_ (i := 10) (v := ?_) 17 rfl rfl (by kernel_rfl) (by kernel_rfl) (by kernel_rfl) (fun _ _ _ h => h) (Or.inl ⟨by rfl, ?_⟩) (by assumption) ?_
      rotate_left
      · (intro wS hSw; (try dsimp only at hSw); go_simp; try with_reducible rfl)
      simp only [Act.put, List.setIfInBounds_toArray, List.set_cons_zero, List.set_cons_succ]
      refine take_ (i := 11) (v := ?_) 18 rfl rfl (by kernel_rfl) (by kernel_rfl) (by kernel_rfl) (fun _ _ _ h => h) (Or.inl ⟨by rfl, ?_⟩) (by assumption) ?_
      rotate_left
      · (intro wS hSw; (try dsimp only at hSw); go_simp; try with_reducible rfl)
      simp only [Act.put, List.setIfInBounds_toArray, List.set_cons_zero, List.set_cons_succ]
      refine one_ (i := 13) _ (by kernel_rfl) rfl (fun K hK => ?_)
      go_simp
      have e0 : (w1.setCell ⟨w.heap.size, 0, none⟩ (.slice none 0 0)).cell? ⟨b, 0, none⟩ = w1.cell? ⟨b, 0, none⟩ := World.cell?_setCell_other _ _ _ _ (fun e => bq (congrArg Addr.block e).symm)
      have e1 : (w1.setCell ⟨w.heap.size, 0, none⟩ (.slice none 0 0)).cell? ⟨b, 1, none⟩ = w1.cell? ⟨b, 1, none⟩ := World.cell?_setCell_other _ _ _ _ (fun e => bq (congrArg Addr.block e).symm)
      refine hK.out _ _ ⟨e0.trans S1.1, e1.trans S1.2⟩ (fun hHeld => ?_)
      clear hK K
      refine take_ (i := 14) (v := ?_) 4 rfl rfl (by kernel_rfl) (by kernel_rfl) (by kernel_rfl) (fun _ _ _ h => h) (Or.inl ⟨by rfl, ?_⟩) (by assumption) ?_
      rotate_left
      · (intro wS hSw; (try dsimp only at hSw); go_simp; try with_reducible rfl)
      simp only [Act.put, List.setIfInBounds_toArray, List.set_cons_zero, List.set_cons_succ]
      refine wpAnyH_done (by kernel_rfl) ?_ _
      refine NoPanic.normal ?_
      go_wp2_with fail
      go_meet
      case rel => exact ⟨rfl, BB.out.setCell (Nat.le_refl _) _⟩
  case rest =>
    obtain ⟨rfl, hB⟩ := hcut
    have B1 := Lib.hid hB
    clear hB
    go_wp2_with fail
    go_ret
    exact ⟨rfl, B1.out⟩

/-- Open is refused ahead of all else. -/
theorem open_bad (w : World) (d : Nat) (F : List Nat) (m : Dsk.DM) (x n : Int) (h : DiskAt w d F m) (hx : x ≤ 9223372036854775807) (hc : checkErr m.dur.length x n = 1) :
    Calls Tryz.prog 53 #[.pointer (some ⟨d, 0, none⟩), .int .i64 x, .int .i64 n] w fun e w' => e = .returned (.tuple #[.pointer none, .slice none 0 0, .int .i64 1]) ∧ w = w' := by
  have C := Lib.hid (check_any w d F m x n hx h)
  rw [hc] at C
  clear h hc hx
  go_enter Tryz.func53, Tryz.ntmps53
  go_wp2_with fail
  refine C.out.mono ?_
  rintro e w' ⟨rfl, rfl⟩
  go_wp2_with fail
  go_ret3
  exact ⟨rfl, rfl⟩
theorem make_bad (w : World) (d : Nat) (F : List Nat) (m : Dsk.DM) (x n : Int) (h : DiskAt w d F m) (hx : x ≤ 9223372036854775807) (hc : checkErr m.dur.length x n = 1) :
    Calls Tryz.prog 38 #[.pointer (some ⟨d, 0, none⟩), .int .i64 x, .int .i64 n] w fun e w' => e = .returned (.tuple #[.pointer none, .int .i64 1]) ∧ w = w' := by
  have C := Lib.hid (check_any w d F m x n hx h)
  rw [hc] at C
  clear h hc hx
  go_enter Tryz.func38, Tryz.ntmps38
  go_wp2_with fail
  refine C.out.mono ?_
  rintro e w' ⟨rfl, rfl⟩
  go_wp2_with fail
  go_ret2
  exact ⟨rfl, rfl⟩
theorem make_nil (w : World) (x n : Int) :
    Calls Tryz.prog 38 #[.pointer none, .int .i64 x, .int .i64 n] w fun e w' => e = .returned (.tuple #[.pointer none, .int .i64 2]) ∧ w = w' := by
  have C := Lib.hid (check_nil w x n)
  go_enter Tryz.func38, Tryz.ntmps38
  go_wp2_with fail
  refine C.out.mono ?_
  rintro e w' ⟨rfl, rfl⟩
  go_wp2_with fail
  go_ret2
  exact ⟨rfl, rfl⟩

/-- The log that Open lays, before it has read. -/
theorem fresh_log (w wb : World) (d : Nat) (F : List Nat) (m : Dsk.DM) (frm ring : Nat) (h : DiskAt w d F m)
    (hwb : wb = w.alloc (.cells (((Tryz.zeroCells134.setIfInBounds 0 (.pointer (some ⟨d, 0, none⟩))).setIfInBounds 1 (.int .i64 (frm : Int))).setIfInBounds 2 (.int .i64 (ring : Int))) 134)) :
    Below w.heap.size w wb ∧ LD wb w.heap.size [w.heap.size] (LS.fresh frm ring) d F m := by
  have BB : Below w.heap.size w wb := by rw [hwb]; exact (Below.refl _ _).alloc (Nat.le_refl _) _
  refine ⟨BB, ⟨.slice none 0 0, ?_, rfl⟩, h.below BB, fun x hx hf => ?_⟩
  · rw [hwb]; exact new_log w d frm ring _ rfl
  · obtain rfl : x = w.heap.size := by simpa using hx
    have := h.lt _ hf
    omega
theorem check_ok {size frm n : Nat} (hc : checkErr size frm n = 0) : 2 ≤ n ∧ frm + n ≤ size := by
  unfold checkErr at hc
  by_cases hq : (frm : Int) < 0 ∨ (n : Int) < 2 ∨ (size : Int) - frm < n
  · rw [if_pos hq] at hc; cases hc
  · omega

set_option maxRecDepth 100000 in
set_option maxHeartbeats 400000 in
/-- No log lies there, or the disk is dead. -/
theorem open_none (w : World) (d : Nat) (F : List Nat) (m : Dsk.DM) (frm n : Nat) (z : Int) (h : DiskAt w d F m) (hc : checkErr m.dur.length frm n = 0)
    (hz : (z = 10 ∧ m.dead = true) ∨ (z = 11 ∧ m.dead = false ∧ ∀ a b c, (sec (m.seen.getD frm [])).take 56 ≠ told frm (n - 1) a b c)) :
    Calls Tryz.prog 53 #[.pointer (some ⟨d, 0, none⟩), .int .i64 (frm : Int), .int .i64 (n : Int)] w fun e w' => e = .returned (.tuple #[.pointer none, .slice none 0 0, .int .i64 z]) ∧ Turned w d F w' m := by
  have hmost := h.good.most
  obtain ⟨hb1, hb2⟩ := check_ok hc
  have C := Lib.hid (check_any w d F m frm n (by omega) h)
  rw [hc] at C
  have H := Lib.hid h
  have HZ := Lib.hid hz
  have hz' : z = 10 ∨ z = 11 := by
    rcases hz with ⟨h1, _⟩ | ⟨h1, _⟩
    · exact .inl h1
    · exact .inr h1
  have HB : Hid (frm < m.dur.length ∧ frm ≤ 4096 ∧ n - 1 ≤ 4096) := ⟨by omega, by omega, by omega⟩
  have hn1 : 1 ≤ n := by omega
  have hn9 : n ≤ 4096 := by omega
  clear h hc hz hb1 hb2
  go_enter Tryz.func53, Tryz.ntmps53
  go_wp2_with fail
  refine C.out.mono ?_
  rintro e w' ⟨rfl, rfl⟩
  clear C
  have en : (n : Int) - 1 = ((n - 1 : Nat) : Int) := by omega
  go_wp2_with fail
  obtain ⟨wb, hwb⟩ : ∃ wb, wb = (w.alloc (.cells (((Tryz.zeroCells134.setIfInBounds 0 (.pointer (some ⟨d, 0, none⟩))).setIfInBounds 1 (.int .i64 (frm : Int))).setIfInBounds 2 (.int .i64 ((n - 1 : Nat) : Int))) 134)) := ⟨_, rfl⟩
  obtain ⟨hB, hL⟩ := fresh_log w wb d F m frm (n - 1) H.out hwb
  have BB := Lib.hid hB
  have LB := Lib.hid hL
  rw [← hwb]
  clear hwb hB hL
  have RT : Calls Tryz.prog 71 #[.pointer (some ⟨w.heap.size, 0, none⟩)] wb fun e w' => e = .returned (.int .i64 z) ∧ Turned w d F w' m := by
    rcases HZ.out with ⟨rfl, hd⟩ | ⟨rfl, hd, hno⟩
    · refine (readTold_dead wb w.heap.size d _ _ F m LB.out (by unfold Dsk.DM.readErr; rw [if_pos hd])).mono ?_
      rintro e w' ⟨rfl, hb⟩
      exact ⟨rfl, F, (H.out.below BB.out).below hb, Only.of_below (BB.out.trans (hb.mono BB.out.size)), fun _ hx => .inl hx⟩
    · have hre : m.readErr ((LS.fresh frm (n - 1)).frm : Int) = 0 := by
        unfold Dsk.DM.readErr
        rw [hd, if_neg (by simp), if_neg (by have := HB.out; show ¬ ¬ (0 ≤ (frm : Int) ∧ (frm : Int) < _); omega)]
      refine (readTold_any wb w.heap.size d _ _ F m _ LB.out HB.out.2.1 HB.out.2.2 hre rfl (fun e => absurd e (hno _ _ _))).mono ?_
      rintro e w' ⟨rfl, G', F', h1, h2, _, h4⟩
      have ez : readToldO (LS.fresh frm (n - 1)) (sec (m.seen.getD (LS.fresh frm (n - 1)).frm [])) = (11, LS.fresh frm (n - 1)) := by
        unfold readToldO
        exact if_neg (hno _ _ _)
      refine ⟨by rw [ez], F', h1.disk, (Only.of_below (F := F) BB.out).trans h2 (fun x hx => ?_), (Grown.refl w F).trans BB.out.size h4⟩
      rcases List.mem_append.1 hx with hx | hx
      · right
        obtain rfl : x = w.heap.size := by simpa using hx
        exact Nat.le_refl _
      · exact .inl hx
  refine RT.mono ?_
  rintro e w1 ⟨rfl, ht⟩
  have HT := Lib.hid ht
  clear ht RT HZ LB BB
  rcases hz' with rfl | rfl
  all_goals
    go_wp2_with fail
    go_ret3
    exact ⟨rfl, HT.out⟩

namespace Wal
/-- The log that is opened. -/
def openS (frm ring st fi sy : Nat) (Bs : List (List (List Nat))) : LS := { frm := frm, ring := ring, start := st, first := fi, synced := sy, needs := Bs.map need, dead := false }
theorem drop_take_eq {l a b c : List Nat} (h : l = a ++ b ++ c) {i n : Nat} (hi : a.length = i) (hn : b.length = n) : (l.drop i).take n = b := by
  subst h hi hn
  rw [List.append_assoc, List.drop_append_of_le_length (Nat.le_refl _), List.drop_of_length_le (Nat.le_refl _), List.nil_append, List.take_append_of_le_length (Nat.le_refl _), List.take_of_length_le (Nat.le_refl _)]
/-- What the fields of a sector say that tells of a log. -/
theorem told_fields {frm ring st fi sy : Nat} {L : List Nat} (h : L = sec (told frm ring st fi sy)) (h2 : st < 18446744073709551616) (h3 : fi < 18446744073709551616) (h4 : sy < 18446744073709551616) :
    L.take 56 = told frm ring st fi sy ∧ fieldAt L 2 = st ∧ fieldAt L 3 = fi ∧ fieldAt L 4 = sy := by
  have tl := told_length frm ring st fi sy
  rw [sec_short (by omega)] at h
  obtain ⟨Z, hZ⟩ : ∃ Z, Z = List.replicate (512 - (told frm ring st fi sy).length) 0 := ⟨_, rfl⟩
  rw [← hZ] at h
  refine ⟨by rw [h, List.take_append_of_le_length (by omega), List.take_of_length_le (by omega)], ?_, ?_, ?_⟩
  · have e : L = (sig ++ num 8 frm ++ num 8 ring) ++ num 8 st ++ (num 8 fi ++ num 8 sy ++ num 4 (Crc.sum (told52 frm ring st fi sy)) ++ Z) := by
      rw [h]; simp [told, told52, nums8]
    unfold fieldAt
    rw [drop_take_eq e (by simp [sig, num_length]) (num_length _ _)]
    exact unnum_num' (by omega)
  · have e : L = (sig ++ num 8 frm ++ num 8 ring ++ num 8 st) ++ num 8 fi ++ (num 8 sy ++ num 4 (Crc.sum (told52 frm ring st fi sy)) ++ Z) := by
      rw [h]; simp [told, told52, nums8]
    unfold fieldAt
    rw [drop_take_eq e (by simp [sig, num_length]) (num_length _ _)]
    exact unnum_num' (by omega)
  · have e : L = (sig ++ num 8 frm ++ num 8 ring ++ num 8 st ++ num 8 fi) ++ num 8 sy ++ (num 4 (Crc.sum (told52 frm ring st fi sy)) ++ Z) := by
      rw [h]; simp [told, told52, nums8]
    unfold fieldAt
    rw [drop_take_eq e (by simp [sig, num_length]) (num_length _ _)]
    exact unnum_num' (by omega)
end Wal

/-- What Open answers where a log lies. -/
def Opened (w : World) (d : Nat) (F : List Nat) (s : LS) (m : Dsk.DM) (Bs : List (List (List Nat))) (e : Ending) (w' : World) : Prop :=
  ∃ b v vs G F', e = .returned (.tuple #[.pointer (some ⟨b, 0, none⟩), v, .int .i64 0]) ∧ LD w' b G s d F' m ∧ Only F w w' ∧ (∀ x ∈ G, w.heap.size ≤ x) ∧ (∀ x ∈ F', x ∈ F ∨ w.heap.size ≤ x) ∧ RowsAt w' w.heap.size v vs Bs ∧ ∀ x ∈ rowsFoot v vs, x ∉ G ++ F'

set_option maxRecDepth 100000 in
set_option maxHeartbeats 800000 in
theorem open_any (w : World) (d : Nat) (F : List Nat) (m : Dsk.DM) (frm n st fi sy : Nat) (Bs : List (List (List Nat))) (h : DiskAt w d F m) (hc : checkErr m.dur.length frm n = 0) (hd : m.dead = false)
    (hf : Wal.Found frm (n - 1) (holds m.seen) st fi sy Bs) (hfi : fi ≤ 1152921504606846976) :
    Calls Tryz.prog 53 #[.pointer (some ⟨d, 0, none⟩), .int .i64 (frm : Int), .int .i64 (n : Int)] w (Opened w d F (openS frm (n - 1) st fi sy Bs) m Bs) := by
  have hmost := h.good.most
  obtain ⟨hb1, hb2⟩ := check_ok hc
  have C := Lib.hid (check_any w d F m frm n (by omega) h)
  rw [hc] at C
  have H := Lib.hid h
  have HF := Lib.hid hf
  have HD := Lib.hid hd
  have HB : Hid (frm < m.dur.length ∧ frm ≤ 4096 ∧ n - 1 ≤ 4096 ∧ 1 ≤ n - 1 ∧ frm + 1 + (n - 1) ≤ m.dur.length) := ⟨by omega, by omega, by omega, by omega, by omega⟩
  have hcount : Bs.length ≤ (Bs.map need).sum := by
    clear HF hf
    induction Bs with
    | nil => simp
    | cons B r ih =>
      have := need_fits B
      simp only [List.map_cons, List.sum_cons, List.length_cons]
      omega
  have HN : Hid (Bs.length ≤ 4096 ∧ fi ≤ 1152921504606846976 ∧ sy ≤ 1152921504606851072) := by
    have h1 := hf.room
    have h2 := hf.count
    exact ⟨by omega, hfi, by omega⟩
  have hn1 : 1 ≤ n := by omega
  have hn9 : n ≤ 4096 := by omega
  clear h hc hf hd hb1 hb2 hfi hcount
  go_enter Tryz.func53, Tryz.ntmps53
  go_wp2_with fail
  refine C.out.mono ?_
  rintro e w' ⟨rfl, rfl⟩
  clear C
  have en : (n : Int) - 1 = ((n - 1 : Nat) : Int) := by omega
  go_wp2_with fail
  obtain ⟨wb, hwb⟩ : ∃ wb, wb = (w.alloc (.cells (((Tryz.zeroCells134.setIfInBounds 0 (.pointer (some ⟨d, 0, none⟩))).setIfInBounds 1 (.int .i64 (frm : Int))).setIfInBounds 2 (.int .i64 ((n - 1 : Nat) : Int))) 134)) := ⟨_, rfl⟩
  obtain ⟨hB, hL⟩ := fresh_log w wb d F m frm (n - 1) H.out hwb
  have BB := Lib.hid hB
  have LB := Lib.hid hL
  rw [← hwb]
  clear hwb hB hL
  obtain ⟨b, hb⟩ : ∃ b, b = w.heap.size := ⟨_, rfl⟩
  have EB := Lib.hid hb
  rw [← hb] at LB ⊢
  clear hb
  have RT : Calls Tryz.prog 71 #[.pointer (some ⟨b, 0, none⟩)] wb fun e w' => e = .returned (.int .i64 0) ∧ LTurned wb b [b] d F w' (openS frm (n - 1) st fi sy []) m := by
    have hre : m.readErr ((LS.fresh frm (n - 1)).frm : Int) = 0 := by
      unfold Dsk.DM.readErr
      rw [HD.out, if_neg (by simp), if_neg (by have := HB.out; show ¬ ¬ (0 ≤ (frm : Int) ∧ (frm : Int) < _); omega)]
    have hs2 : st < n - 1 := HF.out.start
    have hs9 := HB.out.2.2.1
    have hn9' := HN.out
    obtain ⟨t1, t2, t3, t4⟩ := told_fields (L := sec (m.seen.getD frm [])) HF.out.told (by omega) (by omega) (by omega)
    have hfirst := HF.out.first
    have hcnt := HF.out.count
    refine (readTold_any wb b d _ _ F m _ LB.out HB.out.2.1 HB.out.2.2.1 hre rfl (fun _ => ?_)).mono ?_
    · show fieldAt (sec (m.seen.getD frm [])) 2 < n - 1 ∧ 1 ≤ fieldAt (sec (m.seen.getD frm [])) 3 ∧ fieldAt (sec (m.seen.getD frm [])) 3 ≤ fieldAt (sec (m.seen.getD frm [])) 4 + 1 ∧ fieldAt (sec (m.seen.getD frm [])) 4 ≤ _
      rw [t2, t3, t4]
      exact ⟨hs2, hfirst, by omega, by omega⟩
    · rintro e w' ⟨rfl, ht⟩
      have ez : readToldO (LS.fresh frm (n - 1)) (sec (m.seen.getD (LS.fresh frm (n - 1)).frm [])) = (0, openS frm (n - 1) st fi sy []) := by
        show readToldO (LS.fresh frm (n - 1)) (sec (m.seen.getD frm [])) = _
        unfold readToldO
        rw [t2, t3, t4]
        exact if_pos t1
      rw [ez] at ht
      exact ⟨by rw [ez], ht⟩
  refine RT.mono ?_
  rintro e w1 ⟨rfl, ht⟩
  obtain ⟨G1, F1, h1, h2, h3, h4⟩ := ht
  have O1 : Hid (Only F w w1) := (Only.of_below (F := F) BB.out).trans h2 (fun x hx => by
    rcases List.mem_append.1 hx with hx | hx
    · right
      obtain rfl : x = b := by simpa using hx
      rw [EB.out]
      exact Nat.le_refl _
    · exact .inl hx)
  have GG1 : Hid (∀ x ∈ G1, w.heap.size ≤ x) := fun x hx => by
    rcases h3 x hx with h | h
    · obtain rfl : x = b := by simpa using h
      rw [EB.out]
      exact Nat.le_refl _
    · exact Nat.le_trans BB.out.size h
  have FF1 : Hid (∀ x ∈ F1, x ∈ F ∨ w.heap.size ≤ x) := (Grown.refl w F).trans BB.out.size h4
  have L1 := Lib.hid h1
  clear RT h1 h2 h3 h4 LB BB
  have OK1 : (openS frm (n - 1) st fi sy []).Ok := ⟨HB.out.2.1, HB.out.2.2.1, HB.out.2.2.2.1, HF.out.start, HN.out.2.1, HF.out.first, Nat.zero_le _, Nat.zero_le _⟩
  have RB := Lib.hid (readBatches_any w1 b d (openS frm (n - 1) st fi sy []) G1 F1 m Bs L1.out OK1 HD.out (fun i => by
    have h8 := (sector_lt (s := openS frm (n - 1) st fi sy []) HB.out.2.2.2.1 i).2
    have h9 := HB.out.2.2.2.2
    exact Nat.lt_of_lt_of_le h8 h9) rfl HF.out.count HF.out.room (fun k B hk => (HF.out.lies k B hk).congr rfl rfl rfl (fun _ _ => rfl)))
  go_wp2_with fail
  refine RB.out.mono ?_
  rintro e w2 ⟨v, vs, rfl, hr, G2, F2, he⟩
  obtain ⟨A9, c9, rfl⟩ := own_slice hr.row
  have HE := Lib.hid he
  have HR := Lib.hid hr
  have L2 : Hid (w.heap.size ≤ w1.heap.size) := O1.out.size
  clear RB hr he
  go_wp2_with fail
  go_ret3
  refine ⟨b, .slice A9 Bs.length c9, vs, G2, F2, rfl, HE.out.ld, O1.out.trans HE.out.only (fun x hx => ?_), fun x hx => ?_, fun x hx => ?_, ⟨?_, fun k u B h1 h2 => ?_⟩, HE.out.far⟩
  · rcases List.mem_append.1 hx with hx | hx
    · exact .inr (GG1.out x hx)
    · exact FF1.out x hx
  · rcases HE.out.gg x hx with h | h
    · exact GG1.out x h
    · exact Nat.le_trans L2.out h
  · rcases HE.out.gf x hx with h | h
    · exact FF1.out x h
    · exact .inr (Nat.le_trans L2.out h)
  · have h1 := HR.out.row
    refine ⟨h1.1, ?_⟩
    rcases h1.2 with h2 | ⟨g, cap, cur, h2, h3, h4⟩
    · exact .inl h2
    · exact .inr ⟨g, cap, cur, h2, Nat.le_trans L2.out h3, h4⟩
  · have h1 := HR.out.each k u B h1 h2
    refine ⟨h1.1, ?_⟩
    rcases h1.2 with h2 | ⟨g, cap, cur, h2, h3, h4⟩
    · exact .inl h2
    · exact .inr ⟨g, cap, cur, h2, Nat.le_trans L2.out h3, h4⟩
end Go.Proofs.YtkajneeihhobhaaGreat

namespace Go.Proofs.YtkajneeihhobhaaGreat
open Wal

namespace Wal
/-- Fuel, when n writes and flushes have been done. -/
def spend (f : Int) (n : Nat) : Int := if f = -1 then -1 else f - n
theorem spend_spend {f : Int} {a b : Nat} (h : spend f a ≠ -1 ∨ f = -1) : spend (spend f a) b = spend f (a + b) := by
  unfold spend at h ⊢
  by_cases hf : f = -1
  · simp [hf]
  · rw [if_neg hf] at h ⊢
    rw [if_neg hf, if_neg (by omega)]
    omega
theorem needs_count (Bs : List (List (List Nat))) : Bs.length ≤ (Bs.map need).sum := by
  induction Bs with
  | nil => simp
  | cons B r ih =>
    have := need_fits B
    simp only [List.map_cons, List.sum_cons, List.length_cons]
    omega

section
variable {s : LS} {m : Dsk.DM} {i : Nat} {l : List Nat}
theorem up_eq (h : s.dead = false) : ({ s with dead := false } : LS) = s := by rw [← h]
theorem wr_cases (hs : s.dead = false) (hd : m.dead = false) (hi : i < m.dur.length) (hl : l.length ≤ 512) :
    (m.fuel ≠ 0 ∧ wrO s m i l = (0, s, { dur := m.dur, wait := m.wait ++ [(i, l)], fuel := spend m.fuel 1, dead := false })) ∨ (m.fuel = 0 ∧ wrO s m i l = (10, { s with dead := true }, { m with dead := true })) := by
  have h1 : ¬ (¬ (0 ≤ (i : Int) ∧ (i : Int) < m.dur.length) ∨ 512 < l.length) := by omega
  by_cases hf : m.fuel = 0
  · refine .inr ⟨hf, ?_⟩
    unfold wrO Dsk.DM.writeErr Dsk.DM.write
    simp only [hd, hf, if_neg h1, Bool.false_eq_true, if_false, if_true]
    rfl
  · refine .inl ⟨hf, ?_⟩
    unfold wrO Dsk.DM.writeErr Dsk.DM.write
    simp only [hd, hf, if_neg h1, Bool.false_eq_true, if_false]
    have e : ((0 : Int) != 0) = false := rfl
    rw [e, up_eq hs]
    congr 2
    unfold Dsk.DM.burn spend
    by_cases h2 : m.fuel = -1
    · simp [h2, hd]
    · simp [h2, hf, hd]
theorem fl_cases (hs : s.dead = false) (hd : m.dead = false) :
    (m.fuel ≠ 0 ∧ flO s m = (0, s, { dur := m.seen, wait := [], fuel := spend m.fuel 1, dead := false })) ∨ (m.fuel = 0 ∧ flO s m = (10, { s with dead := true }, { m with dead := true })) := by
  by_cases hf : m.fuel = 0
  · refine .inr ⟨hf, ?_⟩
    unfold flO Dsk.DM.flushErr Dsk.DM.flush
    simp only [hd, hf, Bool.false_eq_true, if_false, if_true]
    rfl
  · refine .inl ⟨hf, ?_⟩
    unfold flO Dsk.DM.flushErr Dsk.DM.flush
    simp only [hd, hf, Bool.false_eq_true, if_false]
    have e : ((0 : Int) != 0) = false := rfl
    rw [e, up_eq hs]
    congr 2
    unfold Dsk.DM.burn spend
    by_cases h2 : m.fuel = -1
    · simp [h2, hd]
    · simp [h2, hf, hd]
/-- The log's own sector is told: it is durable, or the disk has died ahead of the write, or ahead of the flush. -/
theorem tell_cases (st fi sy : Nat) (hs : s.dead = false) (hd : m.dead = false) (hi : s.frm < m.dur.length) :
    (m.fuel ≠ 0 ∧ m.fuel ≠ 1 ∧ tellO s m st fi sy = (0, { s with start := st, first := fi, synced := sy }, { dur := m.seen.set s.frm (told s.frm s.ring st fi sy), wait := [], fuel := spend m.fuel 2, dead := false })) ∨
    (m.fuel = 0 ∧ tellO s m st fi sy = (10, { s with dead := true }, { m with dead := true })) ∨
    (m.fuel = 1 ∧ tellO s m st fi sy = (10, { s with dead := true }, { dur := m.dur, wait := m.wait ++ [(s.frm, told s.frm s.ring st fi sy)], fuel := 0, dead := true })) := by
  have hl : (told s.frm s.ring st fi sy).length ≤ 512 := by rw [told_length]; omega
  unfold tellO
  rcases wr_cases hs hd hi hl with ⟨hf, e⟩ | ⟨hf, e⟩
  · rw [e]
    dsimp only
    rw [if_neg (by simp)]
    rcases fl_cases (m := { dur := m.dur, wait := m.wait ++ [(s.frm, told s.frm s.ring st fi sy)], fuel := spend m.fuel 1, dead := false }) hs rfl with ⟨hg, e2⟩ | ⟨hg, e2⟩
    · rw [e2]
      dsimp only
      rw [if_neg (by simp)]
      dsimp only at hg
      refine .inl ⟨hf, fun h1 => hg (by rw [h1]; rfl), ?_⟩
      have e3 : ({ dur := m.dur, wait := m.wait ++ [(s.frm, told s.frm s.ring st fi sy)], fuel := spend m.fuel 1, dead := false } : Dsk.DM).seen = m.seen.set s.frm (told s.frm s.ring st fi sy) := Dsk.apply_snoc _ _ _
      rw [e3]
      have e4 : spend (spend m.fuel 1) 1 = spend m.fuel 2 := spend_spend (by
        unfold spend
        by_cases h2 : m.fuel = -1
        · exact .inr h2
        · left
          rw [if_neg h2]
          omega)
      rw [e4]
    · rw [e2]
      dsimp only
      rw [if_pos (by simp)]
      dsimp only at hg
      have h1 : m.fuel = 1 := by
        unfold spend at hg
        by_cases h2 : m.fuel = -1
        · rw [if_pos h2] at hg; omega
        · rw [if_neg h2] at hg; omega
      exact .inr (.inr ⟨h1, by rw [hg]⟩)
  · rw [e]
    dsimp only
    rw [if_pos (by simp)]
    exact .inr (.inl ⟨hf, rfl⟩)
end
theorem writes_cases : ∀ (ls : List (List Nat)) (p : Nat) (s : LS) (m : Dsk.DM), s.dead = false → m.dead = false → (∀ q, sector s q < m.dur.length) → (∀ l ∈ ls, l.length ≤ 512) → -1 ≤ m.fuel →
    ((m.fuel = -1 ∨ (ls.length : Int) ≤ m.fuel) ∧ writesO p ls s m = (0, s, { dur := m.dur, wait := m.wait ++ laid s p ls, fuel := spend m.fuel ls.length, dead := false })) ∨
    (m.fuel ≠ -1 ∧ m.fuel < ls.length ∧ ∃ j, j ≤ ls.length ∧ writesO p ls s m = (10, { s with dead := true }, { dur := m.dur, wait := m.wait ++ laid s p (ls.take j), fuel := 0, dead := true }))
  | [], p, s, m, hs, hd, hq, hl, hf => by
    refine .inl ⟨by simp; omega, ?_⟩
    unfold writesO laid spend
    rw [List.append_nil]
    have e : (if m.fuel = -1 then (-1 : Int) else m.fuel - (([] : List (List Nat)).length : Nat)) = m.fuel := by
      by_cases h : m.fuel = -1
      · rw [if_pos h, h]
      · rw [if_neg h]; simp
    rw [e, ← hd]
  | l :: r, p, s, m, hs, hd, hq, hl, hf => by
    unfold writesO
    rcases wr_cases hs hd (hq p) (hl l (by simp)) with ⟨h1, e⟩ | ⟨h1, e⟩
    · rw [e]
      dsimp only
      rw [if_neg (by simp)]
      have hsp : spend m.fuel 1 = -1 ↔ m.fuel = -1 := by unfold spend; by_cases h2 : m.fuel = -1 <;> simp [h2]; omega
      have hsg : -1 ≤ spend m.fuel 1 := by
        unfold spend
        by_cases h2 : m.fuel = -1
        · rw [if_pos h2]; omega
        · rw [if_neg h2]; omega
      have ih := writes_cases r (p + 1) s { dur := m.dur, wait := m.wait ++ [(sector s p, l)], fuel := spend m.fuel 1, dead := false } hs rfl hq (fun x hx => hl x (List.mem_cons_of_mem _ hx)) hsg
      dsimp only at ih
      rcases ih with ⟨h2, e2⟩ | ⟨h2, h3, j, hj, e2⟩
      · refine .inl ⟨?_, ?_⟩
        · rcases h2 with h2 | h2
          · exact .inl (hsp.1 h2)
          · by_cases h4 : m.fuel = -1
            · exact .inl h4
            · right
              unfold spend at h2
              rw [if_neg h4] at h2
              simp only [List.length_cons]
              omega
        · rw [e2, spend_spend (by
            rcases h2 with h2 | h2
            · exact .inr (hsp.1 h2)
            · left; omega)]
          simp only [laid, List.append_assoc, List.cons_append, List.nil_append, List.length_cons]
          rw [Nat.add_comm 1 r.length]
      · have h4 : m.fuel ≠ -1 := fun h => h2 (hsp.2 h)
        refine .inr ⟨h4, ?_, j + 1, by simp; omega, ?_⟩
        · unfold spend at h3
          rw [if_neg h4] at h3
          simp only [List.length_cons]
          omega
        · rw [e2]
          simp only [laid, List.append_assoc, List.cons_append, List.nil_append, List.take_succ_cons]
    · rw [e]
      dsimp only
      rw [if_pos (by simp)]
      refine .inr ⟨by omega, by simp; omega, 0, Nat.zero_le _, ?_⟩
      simp only [List.take_zero, laid, List.append_nil]
      rw [← h1]
end Wal
end Go.Proofs.YtkajneeihhobhaaGreat

namespace Go.Proofs.YtkajneeihhobhaaGreat
open Wal

namespace Wal
section
variable {s : LS} {m : Dsk.DM} {Bs : List (List (List Nat))}
theorem Inv.count (h : Inv s m Bs) : Bs.length ≤ 4096 ∧ (Bs.map need).sum ≤ s.ring := by
  have h1 := needs_count Bs
  have h2 := h.ok.needs
  have h3 := h.ok.ring
  rw [h.sum] at h2
  omega
theorem Inv.laid (h : Inv s m Bs) : Laid s.frm s.ring (holds m.seen) s.start s.first (s.first + Bs.length - 1) Bs :=
  ⟨h.ok.start, h.ok.first1, by have := h.ok.first1; omega, h.count.2, fun k B hk => (h.live k B hk).congr rfl rfl rfl (fun _ _ => rfl)⟩

theorem take_sum_le (Bs : List (List (List Nat))) (k : Nat) : ((Bs.take k).map need).sum ≤ (Bs.map need).sum := by
  have h2 := sum_take_le (Bs.map need) k
  rwa [← List.map_take] at h2

/-- Append, where the batch is good and there is room. -/
theorem Inv.append (h : Inv s m Bs) {b : List (List Nat)} (hg : Wal.good b = true) (hb : ∀ r ∈ b, ∀ x ∈ r, x < 256) (hr : (need b : Int) ≤ s.room) (hf : -1 ≤ m.fuel) :
    (∃ m', appendO s m b = (s.last + 1, 0, { s with needs := s.needs ++ [need b] }, m') ∧ Inv { s with needs := s.needs ++ [need b] } m' (Bs ++ [b]) ∧ m'.dur = m.dur ∧ m'.fuel = spend m.fuel (need b) ∧ m'.wait.length = m.wait.length + need b ∧ (m.fuel = -1 ∨ (need b : Int) ≤ m.fuel)) ∨
    (∃ m', appendO s m b = (0, 10, { s with dead := true }, m') ∧ m'.dead = true ∧ m.fuel ≠ -1 ∧ m.fuel < need b ∧ m'.dur = m.dur ∧
      ∀ kp, Found s.frm s.ring (holds (Dsk.crashD m'.wait kp m'.dur)) s.start s.first s.synced (Bs.take (s.synced + 1 - s.first))) := by
  have hnf := need_fits b
  have hroom : (Bs.map need).sum + need b ≤ s.ring := by
    unfold LS.room at hr
    rw [h.sum] at hr
    omega
  have hlast := h.last
  have hnum : (s.last + 1).toNat = s.first + Bs.length := by omega
  obtain ⟨ls, hls⟩ : ∃ ls, ls = (List.range (need b)).map (chunk (packed (s.first + Bs.length) b)) := ⟨_, rfl⟩
  have hll : ls.length = need b := by rw [hls]; simp
  have hpl : (packed (s.first + Bs.length) b).length = 512 * need b := by
    have h1 : (turnAll (maskOf (raw b) 512 (need b - 1)) (raw b) (List.range (need b - 1))).length = 512 * need b := packed_turned b
    unfold packed
    rw [patch_length (by rw [top_length, h1]; omega), h1]
  have hat : ∀ i, i < need b → ls[i]? = some (chunk (packed (s.first + Bs.length) b) i) := fun i hi => by
    rw [hls, List.getElem?_map, List.getElem?_range hi]
    rfl
  have hl5 : ∀ l ∈ ls, l.length = 512 := fun l hl => by
    rw [hls] at hl
    obtain ⟨i, hi, rfl⟩ := List.mem_map.1 hl
    have := List.mem_range.1 hi
    exact chunk_length (by rw [hpl]; omega)
  have e0 : appendO s m b = if (writesO s.needs.sum ls s m).1 ≠ 0 then (0, writesO s.needs.sum ls s m) else (s.last + 1, 0, { (writesO s.needs.sum ls s m).2.1 with needs := s.needs ++ [need b] }, (writesO s.needs.sum ls s m).2.2) := by
    have es : ({ s with dead := s.dead || m.dead } : LS) = s := by rw [h.up, h.alive]; exact up_eq h.up
    unfold appendO
    rw [es, h.up, h.alive, hnum, hls, if_neg (by simp), if_neg (by rw [hg]; simp), if_neg (by omega)]
  have hp : s.needs.sum = (Bs.map need).sum := h.sum
  have hdis : ∀ q, q < (Bs.map need).sum → ∀ ls', ls'.length ≤ need b → ∀ x ∈ Wal.laid s s.needs.sum ls', x.1 ≠ sector s q := fun q hq ls' hl' x hx => by
    obtain ⟨i, hi, h2, _⟩ := laid_at _ _ _ x hx
    rw [h2]
    exact (sector_ne (s := s) (by omega) (by omega)).symm
  have hsafe : ∀ ls' : List (List Nat), ls'.length ≤ need b → ∀ kp, Found s.frm s.ring (holds (Dsk.crashD (m.wait ++ Wal.laid s s.needs.sum ls') kp m.dur)) s.start s.first s.synced (Bs.take (s.synced + 1 - s.first)) := fun ls' hl' kp => by
    rw [crashD_append]
    have h1 := (h.safe kp).beside (p := s.needs.sum) (ls := ls') (by rw [hp]; exact take_sum_le _ _) (by omega) (kp.drop m.wait.length)
    rwa [laid_congr (s := s) (s' := slot s.frm s.ring s.start) rfl rfl rfl] at h1
  rcases writes_cases ls s.needs.sum s m h.up h.alive h.sector_in (fun l hl => by rw [hl5 l hl]; omega) hf with ⟨h1, e⟩ | ⟨h1, h2, j, hj, e⟩
  · left
    rw [e0, e]
    dsimp only
    rw [if_neg (by simp)]
    refine ⟨_, rfl, ?_, rfl, by rw [hll], by rw [List.length_append, laid_length, hll], by rw [← hll]; exact h1⟩
    have hseen : (⟨m.dur, m.wait ++ Wal.laid s s.needs.sum ls, spend m.fuel ls.length, false⟩ : Dsk.DM).seen = Dsk.apply (Wal.laid s s.needs.sum ls) m.seen := Dsk.apply_append _ _ _
    have hc := h.count
    refine ⟨⟨h.ok.frm, h.ok.ring, h.ok.ring0, h.ok.start, h.ok.first, h.ok.first1, ?_, ?_⟩, h.up, rfl, h.size, ?_, h.syn1, ?_, fun k B hk => ?_, fun kp => ?_⟩
    · show (s.needs ++ [need b]).sum ≤ s.ring
      rw [List.sum_append, hp]
      simpa using hroom
    · show (s.needs ++ [need b]).length ≤ 4096
      rw [h.needs]
      have h9 := needs_count (Bs ++ [b])
      have h8 := h.ok.ring
      simp only [List.length_append, List.length_map, List.length_cons, List.length_nil, List.map_append, List.sum_append, List.map_cons, List.map_nil, List.sum_cons, List.sum_nil] at h9 ⊢
      omega
    · show s.needs ++ [need b] = (Bs ++ [b]).map need
      rw [h.needs, List.map_append]
      rfl
    · show s.synced + 1 ≤ s.first + (Bs ++ [b]).length
      have := h.syn2
      simp only [List.length_append, List.length_cons, List.length_nil]
      omega
    · rw [hseen]
      show Lies _ _ _ (s.first + k) B
      rcases Nat.lt_or_ge k Bs.length with hk2 | hk2
      · rw [List.getElem?_append_left hk2] at hk
        rw [List.take_append_of_le_length (by omega)]
        have hn := (sum_take_next Bs hk).1
        exact (h.live k B hk).congr rfl rfl rfl (fun i hi => holds_apply_other (hdis _ (by omega) ls (by omega)))
      · have hk3 : k = Bs.length := by
          have := (List.getElem?_eq_some_iff.1 hk).1
          simp only [List.length_append, List.length_cons, List.length_nil] at this
          omega
        subst hk3
        rw [List.getElem?_append_right (Nat.le_refl _), Nat.sub_self] at hk
        obtain rfl : b = B := by simpa using hk
        rw [List.take_append_of_le_length (Nat.le_refl _), List.take_length]
        refine ⟨hroom, hg, hb, fun i hi => ?_⟩
        have h3 := apply_laid (s := s) ls s.needs.sum m.seen (by omega) (fun q => by rw [Dsk.DM.seen_length]; exact h.sector_in q) i _ (hat i hi)
        unfold holds
        rw [hp] at h3 ⊢
        rw [List.getD_eq_getElem?_getD]
        have es : sector { s with needs := s.needs ++ [need b] } ((Bs.map need).sum + i) = sector s ((Bs.map need).sum + i) := rfl
        rw [es, h3]
        exact sec_full (chunk_length (by rw [hpl]; omega))
    · show Found s.frm s.ring (holds (Dsk.crashD (m.wait ++ Wal.laid s s.needs.sum ls) kp m.dur)) s.start s.first s.synced ((Bs ++ [b]).take (s.synced + 1 - s.first))
      rw [List.take_append_of_le_length (by have := h.syn2; omega)]
      exact hsafe ls (by omega) kp
  · right
    rw [e0, e]
    dsimp only
    rw [if_pos (by simp)]
    refine ⟨_, rfl, rfl, h1, by rw [← hll]; exact h2, rfl, fun kp => ?_⟩
    exact hsafe (ls.take j) (by rw [List.length_take]; omega) kp
theorem Inv.append_bad (h : Inv s m Bs) {b : List (List Nat)} (hg : Wal.good b = false) : appendO s m b = (0, 1, s, m) := by
  have es : ({ s with dead := s.dead || m.dead } : LS) = s := by rw [h.up, h.alive]; exact up_eq h.up
  unfold appendO
  rw [es, h.up, h.alive, if_neg (by simp), if_pos hg]
theorem Inv.append_full (h : Inv s m Bs) {b : List (List Nat)} (hg : Wal.good b = true) (hr : s.room < (need b : Int)) : appendO s m b = (0, 12, s, m) := by
  have es : ({ s with dead := s.dead || m.dead } : LS) = s := by rw [h.up, h.alive]; exact up_eq h.up
  unfold appendO
  rw [es, h.up, h.alive, if_neg (by simp), if_neg (by rw [hg]; simp), if_pos hr]

/-- What is told of is told by the log's own sector alone. -/
theorem Laid.told {frm ring st fi sy : Nat} {d : List (List Nat)} {L : List Nat} {Bs : List (List (List Nat))} (h : Laid frm ring (holds d) st fi sy Bs) (hi : frm < d.length) (hL : L = Wal.told frm ring st fi sy) : Found frm ring (holds (d.set frm L)) st fi sy Bs := by
  have hr0 : 0 < ring := by have := h.start; omega
  refine ⟨h.congr (fun q _ => holds_set_other ?_), by rw [holds_set_same hi, hL]⟩
  have h2 := (sector_lt (s := slot frm ring st) hr0 q).1
  have h9 : (slot frm ring st).frm = frm := rfl
  omega
/-- The told sector turns nothing of what lies in the ring. -/
theorem live_told {d : List (List Nat)} {L : List Nat} {p n : Nat} {B : List (List Nat)} (hr0 : 0 < s.ring) (h : Lies s (holds d) p n B) : Lies s (holds (d.set s.frm L)) p n B :=
  h.congr rfl rfl rfl (fun i _ => holds_set_other (by have := (sector_lt hr0 (p + i)).1; omega))

/-- Sync. -/
theorem Inv.sync (h : Inv s m Bs) :
    (∃ m', syncO s m = (0, { s with synced := s.first + Bs.length - 1 }, m') ∧ Inv { s with synced := s.first + Bs.length - 1 } m' Bs ∧ m'.wait.length ≤ m.wait.length ∧ m'.dur.length = m.dur.length ∧ m'.fuel = (if s.synced + 1 = s.first + Bs.length then m.fuel else spend m.fuel 3) ∧
      (s.synced + 1 = s.first + Bs.length ∨ m'.wait = []) ∧ (s.synced + 1 = s.first + Bs.length ∨ (m.fuel ≠ 0 ∧ m.fuel ≠ 1 ∧ m.fuel ≠ 2))) ∨
    (∃ m', syncO s m = (10, { s with dead := true }, m') ∧ m'.dead = true ∧ m.fuel ≠ -1 ∧ s.synced + 1 ≠ s.first + Bs.length ∧ m'.dur.length = m.dur.length ∧
      ∀ kp, Found s.frm s.ring (holds (Dsk.crashD m'.wait kp m'.dur)) s.start s.first s.synced (Bs.take (s.synced + 1 - s.first)) ∨ Found s.frm s.ring (holds (Dsk.crashD m'.wait kp m'.dur)) s.start s.first (s.first + Bs.length - 1) Bs) := by
  have es : ({ s with dead := s.dead || m.dead } : LS) = s := by rw [h.up, h.alive]; exact up_eq h.up
  have hlast := h.last
  have hf1 := h.ok.first1
  have hs2 := h.syn2
  have hs1 := h.syn1
  by_cases hq : s.synced + 1 = s.first + Bs.length
  · left
    have e : ({ s with synced := s.first + Bs.length - 1 } : LS) = s := by
      have : s.first + Bs.length - 1 = s.synced := by omega
      rw [this]
    refine ⟨m, ?_, by rw [e]; exact h, Nat.le_refl _, rfl, by rw [if_pos hq], .inl hq, .inl hq⟩
    have e2 : syncO s m = (0, s, m) := by
      unfold syncO
      rw [es, h.up, h.alive, if_neg (by simp), if_pos (by omega)]
    rw [e2, e]
  · have hfd : s.frm < m.dur.length := by have := h.size; have := h.ok.ring0; omega
    have hfs : s.frm < m.seen.length := by rw [Dsk.DM.seen_length]; exact hfd
    have e1 : syncO s m = if (flO s m).1 ≠ 0 then flO s m else tellO (flO s m).2.1 (flO s m).2.2 (flO s m).2.1.start (flO s m).2.1.first (flO s m).2.1.last.toNat := by
      unfold syncO
      rw [es, h.up, h.alive, if_neg (by simp), if_neg (by omega)]
    rcases fl_cases (m := m) h.up h.alive with ⟨h1, e2⟩ | ⟨h1, e2⟩
    · rw [e2] at e1
      dsimp only at e1
      rw [if_neg (by simp)] at e1
      have hnum : s.last.toNat = s.first + Bs.length - 1 := by omega
      rw [hnum] at e1
      have hseen : (⟨m.seen, [], spend m.fuel 1, false⟩ : Dsk.DM).seen = m.seen := rfl
      rcases tell_cases (m := ⟨m.seen, [], spend m.fuel 1, false⟩) s.start s.first (s.first + Bs.length - 1) h.up rfl hfs with ⟨h2, h3, e3⟩ | ⟨h2, e3⟩ | ⟨h2, e3⟩
      · left
        dsimp only at h2 h3
        rw [e3] at e1
        have hF : m.fuel ≠ 0 ∧ m.fuel ≠ 1 ∧ m.fuel ≠ 2 := by
          refine ⟨h1, fun hh => h2 (by rw [hh]; rfl), fun hh => h3 (by rw [hh]; rfl)⟩
        refine ⟨_, e1, ?_, Nat.zero_le _, by rw [List.length_set, hseen, Dsk.DM.seen_length], ?_, .inr rfl, .inr hF⟩
        · refine ⟨⟨h.ok.frm, h.ok.ring, h.ok.ring0, h.ok.start, h.ok.first, h.ok.first1, h.ok.needs, h.ok.count⟩, h.up, rfl, ?_, h.needs, by show s.first ≤ s.first + Bs.length - 1 + 1; omega, by show s.first + Bs.length - 1 + 1 ≤ s.first + Bs.length; omega, fun k B hk => ?_, fun kp => ?_⟩
          · show s.frm + 1 + s.ring ≤ (m.seen.set s.frm _).length
            rw [List.length_set, Dsk.DM.seen_length]
            exact h.size
          · exact (live_told (s := s) h.ok.ring0 (h.live k B hk)).congr rfl rfl rfl (fun _ _ => rfl)
          · show Found s.frm s.ring (holds (m.seen.set s.frm _)) s.start s.first (s.first + Bs.length - 1) (Bs.take (s.first + Bs.length - 1 + 1 - s.first))
            rw [show s.first + Bs.length - 1 + 1 - s.first = Bs.length by omega, List.take_length]
            exact h.laid.told hfs rfl
        · rw [if_neg hq]
          refine spend_spend ?_
          unfold spend
          by_cases h9 : m.fuel = -1
          · exact .inr h9
          · left
            rw [if_neg h9]
            omega
      · right
        dsimp only at h2
        rw [e3] at e1
        refine ⟨_, e1, rfl, fun hh => (by rw [hh] at h2; simp [spend] at h2), hq, by rw [Dsk.DM.seen_length], fun kp => .inl h.seen⟩
      · right
        dsimp only at h2
        rw [e3] at e1
        refine ⟨_, e1, rfl, fun hh => (by rw [hh] at h2; simp [spend] at h2), hq, by rw [Dsk.DM.seen_length], fun kp => ?_⟩
        dsimp only
        rw [Dsk.crashD_snoc]
        split
        · exact .inr (h.laid.told hfs rfl)
        · exact .inl h.seen
    · right
      rw [e2] at e1
      dsimp only at e1
      rw [if_pos (by simp)] at e1
      exact ⟨_, e1, rfl, by omega, hq, rfl, fun kp => .inl (h.safe kp)⟩
end
end Wal
end Go.Proofs.YtkajneeihhobhaaGreat

namespace Go.Proofs.YtkajneeihhobhaaGreat
open Wal

namespace Wal
section
variable {s : LS} {m : Dsk.DM} {Bs : List (List (List Nat))}
theorem Inv.trim_bad (h : Inv s m Bs) {upto : Int} (hu : upto < 0 ∨ (s.synced : Int) < upto) : trimO s m upto = (1, s, m) := by
  have es : ({ s with dead := s.dead || m.dead } : LS) = s := by rw [h.up, h.alive]; exact up_eq h.up
  unfold trimO
  rw [es, h.up, h.alive, if_neg (by simp), if_pos hu]
theorem Inv.trim_none (h : Inv s m Bs) {upto : Int} (h0 : 0 ≤ upto) (h1 : upto < (s.first : Int)) (h2 : upto ≤ (s.synced : Int)) : trimO s m upto = (0, s, m) := by
  have es : ({ s with dead := s.dead || m.dead } : LS) = s := by rw [h.up, h.alive]; exact up_eq h.up
  unfold trimO
  rw [es, h.up, h.alive, if_neg (by simp), if_neg (by omega), if_pos h1]
/-- Trim of k batches. -/
theorem Inv.trim (h : Inv s m Bs) {k : Nat} (hk : 1 ≤ k) (hk2 : s.first + k ≤ s.synced + 1) (hfi : s.first + k ≤ 1152921504606846976) :
    (∃ m' s', trimO s m ((s.first : Int) + k - 1) = (0, s', m') ∧ s' = { s with start := (s.start + ((Bs.take k).map need).sum) % s.ring, first := s.first + k, needs := s.needs.drop k } ∧ Inv s' m' (Bs.drop k) ∧ m'.wait = [] ∧ m'.dur.length = m.dur.length ∧ m'.fuel = spend m.fuel 2) ∨
    (∃ m', trimO s m ((s.first : Int) + k - 1) = (10, { s with dead := true }, m') ∧ m'.dead = true ∧ m.fuel ≠ -1 ∧ m'.dur.length = m.dur.length ∧
      ∀ kp, Found s.frm s.ring (holds (Dsk.crashD m'.wait kp m'.dur)) s.start s.first s.synced (Bs.take (s.synced + 1 - s.first)) ∨ Found s.frm s.ring (holds (Dsk.crashD m'.wait kp m'.dur)) ((s.start + ((Bs.take k).map need).sum) % s.ring) (s.first + k) s.synced ((Bs.take (s.synced + 1 - s.first)).drop k)) := by
  have es : ({ s with dead := s.dead || m.dead } : LS) = s := by rw [h.up, h.alive]; exact up_eq h.up
  have hs2 := h.syn2
  have hf1 := h.ok.first1
  have hfd : s.frm < m.dur.length := by have := h.size; have := h.ok.ring0; omega
  have hfs : s.frm < m.seen.length := by rw [Dsk.DM.seen_length]; exact hfd
  have hkk : ((s.first : Int) + k - 1 - s.first + 1).toNat = k := by omega
  have huu : ((s.first : Int) + k - 1 + 1).toNat = s.first + k := by omega
  have hS : (s.needs.take k).sum = ((Bs.take k).map need).sum := by rw [h.needs, ← List.map_take]
  obtain ⟨st, hst⟩ : ∃ st, st = (s.start + ((Bs.take k).map need).sum) % s.ring := ⟨_, rfl⟩
  have e1 : trimO s m ((s.first : Int) + k - 1) = if (tellO s m st (s.first + k) s.synced).1 ≠ 0 then tellO s m st (s.first + k) s.synced else (0, { (tellO s m st (s.first + k) s.synced).2.1 with needs := s.needs.drop k }, (tellO s m st (s.first + k) s.synced).2.2) := by
    unfold trimO
    rw [es, h.up, h.alive, if_neg (by simp), if_neg (by omega), if_neg (by omega)]
    dsimp only
    rw [hkk, huu, hS, ← hst]
  have hlen : (Bs.take (s.synced + 1 - s.first)).length = s.synced + 1 - s.first := by rw [List.length_take]; omega
  have hsum : (((Bs.take (s.synced + 1 - s.first)).take k).map need).sum = ((Bs.take k).map need).sum := by
    rw [List.take_take, Nat.min_eq_left (by omega)]
  have htrim : ∀ {V : Nat → List Nat}, Laid s.frm s.ring V s.start s.first s.synced (Bs.take (s.synced + 1 - s.first)) → Laid s.frm s.ring V st (s.first + k) s.synced ((Bs.take (s.synced + 1 - s.first)).drop k) := fun hl => by
    have := hl.trim (k := k) (by rw [hlen]; omega)
    rw [hsum] at this
    rw [hst]
    exact this
  have hc := h.count
  rcases tell_cases (m := m) st (s.first + k) s.synced h.up h.alive hfd with ⟨h2, h3, e3⟩ | ⟨h2, e3⟩ | ⟨h2, e3⟩
  · left
    rw [e3] at e1
    dsimp only at e1
    rw [if_neg (by simp)] at e1
    refine ⟨_, _, e1, by rw [hst], ?_, rfl, by rw [List.length_set, Dsk.DM.seen_length], rfl⟩
    have hl := h.laid.trim (k := k) (by omega)
    have hd : (Bs.drop k).length = Bs.length - k := by rw [List.length_drop]
    refine ⟨⟨h.ok.frm, h.ok.ring, h.ok.ring0, by show st < s.ring; rw [hst]; exact Nat.mod_lt _ h.ok.ring0, hfi, by show 1 ≤ s.first + k; omega, ?_, ?_⟩, h.up, rfl, ?_, ?_, by show s.first + k ≤ s.synced + 1; omega, by show s.synced + 1 ≤ s.first + k + (Bs.drop k).length; omega, fun j B hB => ?_, fun kp => ?_⟩
    · show (s.needs.drop k).sum ≤ s.ring
      have h8 := hl.room
      rw [List.map_drop, ← h.needs] at h8
      exact h8
    · show (s.needs.drop k).length ≤ 4096
      rw [List.length_drop, h.needs, List.length_map]
      omega
    · show s.frm + 1 + s.ring ≤ (m.seen.set s.frm _).length
      rw [List.length_set, Dsk.DM.seen_length]
      exact h.size
    · show s.needs.drop k = (Bs.drop k).map need
      rw [h.needs, List.map_drop]
    · have h8 := hl.lies j B hB
      rw [← hst] at h8
      have h9 : Lies (slot s.frm s.ring st) (holds (m.seen.set s.frm (Wal.told s.frm s.ring st (s.first + k) s.synced))) (((Bs.drop k).take j).map need).sum (s.first + k + j) B := live_told (s := slot s.frm s.ring st) h.ok.ring0 h8
      exact h9.congr rfl rfl rfl (fun _ _ => rfl)
    · show Found s.frm s.ring (holds (m.seen.set s.frm _)) st (s.first + k) s.synced ((Bs.drop k).take (s.synced + 1 - (s.first + k)))
      have e5 : (Bs.drop k).take (s.synced + 1 - (s.first + k)) = (Bs.take (s.synced + 1 - s.first)).drop k := by
        rw [List.drop_take]
        congr 1
        omega
      rw [e5]
      exact (htrim h.seen.toLaid).told hfs rfl
  · right
    rw [e3] at e1
    dsimp only at e1
    rw [if_pos (by simp)] at e1
    exact ⟨_, e1, rfl, by omega, rfl, fun kp => .inl (h.safe kp)⟩
  · right
    rw [e3] at e1
    dsimp only at e1
    rw [if_pos (by simp)] at e1
    refine ⟨_, e1, rfl, by omega, rfl, fun kp => ?_⟩
    dsimp only
    rw [Dsk.crashD_snoc]
    split
    · right
      rw [← hst]
      exact (htrim (h.safe kp).toLaid).told (by rw [Dsk.crashD_length]; exact hfd) rfl
    · exact .inl (h.safe kp)
end

/-- A log that lies on a disk is opened. -/
theorem inv_open {m : Dsk.DM} {frm ring st fi sy : Nat} {Bs : List (List (List Nat))} (hm : m.dur.length ≤ 4096) (hd : m.dead = false) (hsz : frm + 1 + ring ≤ m.dur.length) (hfi : fi ≤ 1152921504606846976)
    (hs : ∀ kp, Found frm ring (holds (Dsk.crashD m.wait kp m.dur)) st fi sy Bs) : Inv (openS frm ring st fi sy Bs) m Bs := by
  have h0 := hs []
  have hseen : Found frm ring (holds m.seen) st fi sy Bs := by
    have := hs (List.replicate m.wait.length true)
    rwa [← Dsk.apply_eq_crashD] at this
  have hc := h0.count
  have hn := needs_count Bs
  have hr := h0.room
  have hst := h0.start
  refine ⟨⟨by show frm ≤ _; omega, by show ring ≤ _; omega, by show 0 < ring; omega, hst, hfi, h0.first, hr, by show (Bs.map need).length ≤ 4096; rw [List.length_map]; omega⟩, rfl, hd, hsz, rfl, by show fi ≤ sy + 1; omega, by show sy + 1 ≤ fi + Bs.length; omega, fun k B hk => ?_, fun kp => ?_⟩
  · exact (hseen.lies k B hk).congr rfl rfl rfl (fun _ _ => rfl)
  · show Found frm ring _ st fi sy (Bs.take (sy + 1 - fi))
    rw [show sy + 1 - fi = Bs.length by omega, List.take_length]
    exact hs kp
theorem laid_none (frm ring : Nat) (V : Nat → List Nat) (h : 0 < ring) : Laid frm ring V 0 1 0 [] := ⟨h, Nat.le_refl _, rfl, Nat.zero_le _, fun k B hk => by simp at hk⟩
/-- A log that is made. -/
theorem inv_make {m : Dsk.DM} {frm n : Nat} (hm : m.dur.length ≤ 4096) (hd : m.dead = false) (hn : 2 ≤ n) (hsz : frm + n ≤ m.dur.length) (hf : m.fuel = -1) :
    ∃ m', makeO m frm n = (0, openS frm (n - 1) 0 1 0 [], m') ∧ Inv (openS frm (n - 1) 0 1 0 []) m' [] ∧ m'.wait = [] ∧ m'.dur.length = m.dur.length ∧ m'.fuel = -1 ∧ m'.dur = m.seen.set frm (told frm (n - 1) 0 1 0) := by
  have hfs : frm < m.seen.length := by rw [Dsk.DM.seen_length]; omega
  unfold makeO
  rcases tell_cases (s := LS.fresh frm (n - 1)) (m := m) 0 1 0 rfl hd (by show frm < _; omega) with ⟨h2, h3, e3⟩ | ⟨h2, e3⟩ | ⟨h2, e3⟩
  · rw [e3]
    refine ⟨_, rfl, ?_, rfl, by rw [List.length_set, Dsk.DM.seen_length], by rw [hf]; rfl, rfl⟩
    refine inv_open (by rw [List.length_set, Dsk.DM.seen_length]; exact hm) rfl (by rw [List.length_set, Dsk.DM.seen_length]; omega) (by omega) (fun kp => ?_)
    exact (laid_none frm (n - 1) (holds m.seen) (by omega)).told hfs rfl
  · omega
  · omega
theorem make_dead {m : Dsk.DM} {frm n : Nat} (hd : m.dead = true) : (makeO m frm n).1 = 10 := by
  have e : (wrO (LS.fresh frm (n - 1)) m (LS.fresh frm (n - 1)).frm (told (LS.fresh frm (n - 1)).frm (LS.fresh frm (n - 1)).ring 0 1 0)).1 = 10 := by
    unfold wrO Dsk.DM.writeErr
    dsimp only
    rw [if_pos hd]
  unfold makeO tellO
  dsimp only
  rw [if_pos (by rw [e]; simp)]
  exact e
/-- Behind a crash. -/
theorem crash_found {m : Dsk.DM} {frm ring st fi sy : Nat} {Bs : List (List (List Nat))} (kp : List Bool) (h : Found frm ring (holds (Dsk.crashD m.wait kp m.dur)) st fi sy Bs) : ∀ k, Found frm ring (holds (Dsk.crashD (m.crash kp).wait k (m.crash kp).dur)) st fi sy Bs := fun _ => h
/-- A call on a dead log, or a dead disk. -/
theorem append_dead {s : LS} {m : Dsk.DM} {b : List (List Nat)} (h : (s.dead || m.dead) = true) : appendO s m b = (0, 10, { s with dead := true }, m) := by
  unfold appendO
  rw [h, if_pos rfl]
theorem sync_dead {s : LS} {m : Dsk.DM} (h : (s.dead || m.dead) = true) : syncO s m = (10, { s with dead := true }, m) := by
  unfold syncO
  rw [h, if_pos rfl]
theorem trim_dead {s : LS} {m : Dsk.DM} {u : Int} (h : (s.dead || m.dead) = true) : trimO s m u = (10, { s with dead := true }, m) := by
  unfold trimO
  rw [h, if_pos rfl]
/-- A sector that tells of a log tells of no other one. -/
theorem told_other {frm ring ring' : Nat} {a b c a' b' c' : Nat} (hne : ring ≠ ring') (h1 : ring < 4294967296) (h2 : ring' < 4294967296) : told frm ring a b c ≠ told frm ring' a' b' c' := by
  intro e
  have e1 : ∀ r x y z, ((told frm r x y z).drop 20).take 8 = num 8 r := fun r x y z =>
    drop_take_eq (a := sig ++ num 8 frm) (c := num 8 x ++ num 8 y ++ num 8 z ++ num 4 (Crc.sum (told52 frm r x y z))) (by simp [told, told52, nums8]) (by simp [sig, num_length]) (num_length _ _)
  have h3 := e1 ring a b c
  rw [e, e1] at h3
  have h4 := congrArg unnum h3
  rw [unnum_num' (by omega), unnum_num' (by omega)] at h4
  exact hne h4.symm
/-- Zeros tell of no log. -/
theorem told_zeros {frm ring a b c : Nat} : (sec []).take 56 ≠ told frm ring a b c := by
  intro e
  have h1 := congrArg (fun l => l.take 1) e
  have h2 : (told frm ring a b c).take 1 = [100] := by simp [told, told52, sig]
  have h3 : ((sec []).take 56).take 1 = [0] := by decide
  have h4 : [0] = [100] := h3.symm.trans (h1.trans h2)
  cases h4
end Wal
end Go.Proofs.YtkajneeihhobhaaGreat
