/-
  The disk beside the document's: they answer alike, step by step.
-/
import Derived.Test.YtejpefiblodefaaRefC
namespace Go.Proofs.Ytejpefiblodefaa
open Go.RowKit

namespace Dsk
structure Sim (m : DM) (r : RM) : Prop where
  n : r.n = m.dur.length
  fuel : r.fuel = m.fuel
  dead : r.dead = m.dead
  waits : r.waits = m.wait.map fun p => (p.1, sec p.2)
  done : ∀ i, i < m.dur.length → r.durText i = sec (m.dur.getD i [])

theorem getD_set {d : List (List Nat)} {i j : Nat} {x : List Nat} : (d.set i x).getD j [] = if i = j ∧ j < d.length then x else d.getD j [] := by
  rw [List.getD_eq_getElem?_getD, List.getD_eq_getElem?_getD, List.getElem?_set]
  by_cases h : i = j
  · subst h
    by_cases h2 : i < d.length
    · rw [if_pos rfl, if_pos h2, if_pos ⟨rfl, h2⟩]; rfl
    · rw [if_pos rfl, if_neg h2, if_neg (fun c => h2 c.2), List.getElem?_eq_none (by omega)]
  · rw [if_neg h, if_neg (fun c => h c.1)]
theorem last_apply (w : List (Nat × List Nat)) (i : Nat) : ∀ (d : List (List Nat)), i < d.length → lastW (w.map fun p => (p.1, sec p.2)) i (sec (d.getD i [])) = sec ((apply w d).getD i []) := by
  induction w with
  | nil => intro d _; rfl
  | cons p r ih =>
    intro d hi
    simp only [List.map_cons, lastW, List.foldl_cons, apply] at ih ⊢
    rw [← ih (d.set p.1 p.2) (by simpa using hi), getD_set]
    by_cases h : p.1 = i
    · rw [if_pos h, if_pos ⟨h, hi⟩]
    · rw [if_neg h, if_neg (fun c => h c.1)]
theorem last_crash (w : List (Nat × List Nat)) (i : Nat) : ∀ (k : List Bool) (d : List (List Nat)), i < d.length → lastW (keepW (w.map fun p => (p.1, sec p.2)) k) i (sec (d.getD i [])) = sec ((crashD w k d).getD i []) := by
  induction w with
  | nil => intro k d _; rfl
  | cons p r ih =>
    intro k d hi
    simp only [List.map_cons, keepW, crashD]
    rw [lastW_append]
    by_cases hk : k.headD false = true
    · rw [if_pos hk, if_pos hk, ← ih k.tail (d.set p.1 p.2) (by simpa using hi), getD_set]
      simp only [lastW, List.foldl_cons, List.foldl_nil]
      by_cases h : p.1 = i
      · rw [if_pos h, if_pos ⟨h, hi⟩]
      · rw [if_neg h, if_neg (fun c => h c.1)]
    · rw [if_neg hk, if_neg hk]
      exact ih k.tail d hi
theorem Sim.read {m : DM} {r : RM} (h : Sim m r) {i : Nat} (hi : i < m.dur.length) : r.readText i = sec (m.seen.getD i []) := by
  unfold RM.readText
  rw [h.done i hi, h.waits]
  exact last_apply m.wait i m.dur hi
theorem Sim.writeErr {m : DM} {r : RM} (h : Sim m r) (i : Int) (len : Nat) : r.writeErr i len = m.writeErr i len := by unfold RM.writeErr DM.writeErr; rw [h.dead, h.n, h.fuel]
theorem Sim.flushErr {m : DM} {r : RM} (h : Sim m r) : r.flushErr = m.flushErr := by unfold RM.flushErr DM.flushErr; rw [h.dead, h.fuel]
theorem Sim.durErr {m : DM} {r : RM} (h : Sim m r) (i : Int) : r.durErr i = m.durErr i := by unfold RM.durErr DM.durErr; rw [h.n]
theorem Sim.readErr {m : DM} {r : RM} (h : Sim m r) (i : Int) : r.readErr i = m.readErr i := by unfold RM.readErr DM.readErr; rw [h.dead, h.durErr]; rfl
theorem Sim.dead_ {m : DM} {r : RM} (h : Sim m r) : Sim { m with dead := true } { r with dead := true } := ⟨h.n, h.fuel, rfl, h.waits, h.done⟩
theorem Sim.uses {m : DM} {r : RM} (h : Sim m r) (g : -1 ≤ m.fuel) : Sim m.burn r.uses := by
  unfold DM.burn RM.uses
  rw [h.fuel]
  by_cases h1 : m.fuel = -1
  · rw [if_pos h1, if_neg (by omega), if_neg (by omega)]; exact h
  · rw [if_neg h1]
    by_cases h2 : m.fuel = 0
    · rw [if_pos h2, if_pos h2]; exact ⟨by first | exact h.n | rfl, by first | exact h.fuel | rfl, rfl, h.waits, h.done⟩
    · rw [if_neg h2, if_neg h2, if_pos (by omega)]; exact ⟨h.n, rfl, h.dead, h.waits, h.done⟩
theorem Sim.write {m : DM} {r : RM} (h : Sim m r) (g : -1 ≤ m.fuel) (i : Int) (l : List Nat) : Sim (m.write i l) (r.write i l) := by
  unfold DM.write RM.write
  rw [h.dead, h.n, h.fuel]
  split
  · exact h
  · split
    · exact h
    · split
      · exact ⟨by first | exact h.n | rfl, by first | exact h.fuel | rfl, rfl, h.waits, h.done⟩
      · have hu := h.uses g
        refine ⟨hu.n, hu.fuel, hu.dead, ?_, hu.done⟩
        show r.waits ++ [(i.toNat, sec l)] = (m.wait ++ [(i.toNat, l)]).map _
        rw [List.map_append, h.waits]
        rfl
theorem Sim.flush {m : DM} {r : RM} (h : Sim m r) (g : -1 ≤ m.fuel) : Sim m.flush r.flush := by
  unfold DM.flush RM.flush
  rw [h.dead, h.fuel]
  split
  · exact h
  · split
    · exact ⟨by first | exact h.n | rfl, by first | exact h.fuel | rfl, rfl, h.waits, h.done⟩
    · have hu := h.uses g
      refine ⟨?_, hu.fuel, hu.dead, rfl, fun i hi => ?_⟩
      · show r.uses.n = m.seen.length
        rw [DM.seen_length, ← m.burn_dur]; exact hu.n
      · show lastW (r.done ++ r.waits) i (sec []) = sec (m.seen.getD i [])
        have hi' : i < m.dur.length := by
          have hi2 : i < m.seen.length := hi
          rwa [DM.seen_length] at hi2
        rw [lastW_append]
        exact h.read hi'
theorem Sim.crash {m : DM} {r : RM} (h : Sim m r) (k : List Bool) : Sim (m.crash k) (r.crash k) := by
  refine ⟨?_, rfl, rfl, rfl, fun i hi => ?_⟩
  · show r.n = (crashD m.wait k m.dur).length
    rw [crashD_length]; exact h.n
  · have hi2 : i < (crashD m.wait k m.dur).length := hi
    rw [crashD_length] at hi2
    show lastW (r.done ++ keepW r.waits k) i (sec []) = sec ((crashD m.wait k m.dur).getD i [])
    rw [lastW_append, h.waits]
    have := h.done i hi2
    unfold RM.durText at this
    rw [this]
    exact last_crash m.wait i k m.dur hi2
def RM.setFuel (r : RM) (x : Int) : RM := { r with fuel := max x (-1) }
theorem Sim.setFuel {m : DM} {r : RM} (h : Sim m r) (x : Int) : Sim (m.setFuel x) (r.setFuel x) := ⟨h.n, rfl, h.dead, h.waits, h.done⟩
theorem Sim.fresh (n : Nat) : Sim (Dsk.fresh n) (Dsk.rfresh n) := by
  refine ⟨by simp [Dsk.fresh, Dsk.rfresh], rfl, rfl, rfl, fun i hi => ?_⟩
  have hi' : i < n := by simpa [Dsk.fresh] using hi
  show sec [] = sec ((List.replicate n ([] : List Nat)).getD i [])
  rw [List.getD_eq_getElem?_getD, List.getElem?_replicate, if_pos hi']
  rfl
/-- How much both bear: it grows by one at most. -/
def load (m : DM) (r : RM) : Nat := m.wait.length + r.done.length
theorem load_write {m : DM} {r : RM} (i : Int) (l : List Nat) : load (m.write i l) (r.write i l) ≤ load m r + 1 := by
  have e1 : (m.write i l).wait.length ≤ m.wait.length + 1 := by
    unfold DM.write
    split
    · omega
    · split
      · omega
      · split
        · show m.wait.length ≤ _; omega
        · show (m.wait ++ [_]).length ≤ _; simp
  have e2 : (r.write i l).done.length = r.done.length := by
    unfold RM.write
    split
    · rfl
    · split
      · rfl
      · split
        · rfl
        · show r.uses.done.length = _; rw [r.uses_done]
  unfold load
  omega
theorem load_flush {m : DM} {r : RM} (h : Sim m r) : load m.flush r.flush ≤ load m r := by
  have hw : r.waits.length = m.wait.length := by rw [h.waits, List.length_map]
  unfold load DM.flush RM.flush
  rw [h.dead, h.fuel]
  split
  · omega
  · split
    · exact Nat.le_refl _
    · show 0 + (r.done ++ r.waits).length ≤ _
      rw [List.length_append]; omega
theorem load_crash {m : DM} {r : RM} (h : Sim m r) (k : List Bool) : load (m.crash k) (r.crash k) ≤ load m r := by
  have hw : r.waits.length = m.wait.length := by rw [h.waits, List.length_map]
  show 0 + (r.done ++ keepW r.waits k).length ≤ _
  have := keepW_length r.waits k
  unfold load
  rw [List.length_append]; omega
end Dsk

/-- A disk and the document's, apart, alike. -/
structure Both (w : World) (d : Nat) (F : List Nat) (m : Dsk.DM) (rd : Nat) (G : List Nat) (r : Dsk.RM) (L : Nat) : Prop where
  disk : DiskAt w d F m
  ref : RefAt w rd G r
  apart : ∀ x ∈ F, x ∉ G
  sim : Dsk.Sim m r
  len : Dsk.load m r ≤ L

def BTurned (w : World) (d : Nat) (F : List Nat) (rd : Nat) (G : List Nat) (w' : World) (L : Nat) : Prop := ∃ F' m' G' r', Both w' d F' m' rd G' r' L ∧ Only (F ++ G) w w' ∧ ∀ x ∈ F' ++ G', x ∈ F ++ G ∨ w.heap.size ≤ x

section
variable {w w1 w2 : World} {d rd L : Nat} {F G F' G' : List Nat} {m m' : Dsk.DM} {r r' : Dsk.RM}
theorem Both.under (h : Both w d F m rd G r L) (k : Below w.heap.size w w1) : Both w1 d F m rd G r L := ⟨h.disk.below k, h.ref.below k, h.apart, h.sim, h.len⟩
theorem Both.lt (h : Both w d F m rd G r L) : ∀ x ∈ F ++ G, x < w.heap.size := fun x hx => (List.mem_append.1 hx).elim (h.disk.lt x) (h.ref.lt x)
theorem Both.wl (h : Both w d F m rd G r L) (hL : L ≤ 5800000000000) : m.wait.length ≤ 5800000000000 ∧ r.done.length + r.waits.length ≤ 5800000000000 ∧ r.waits.length ≤ 5800000000000 := by
  have h1 := h.len
  have hw : r.waits.length = m.wait.length := by rw [h.sim.waits, List.length_map]
  unfold Dsk.load at h1
  omega
/-- First the disk turned, then the document's. -/
theorem Both.turn (h : Both w d F m rd G r L) (t : Turned w d F w1 m') (hr : RTurned w1 rd G w2 r') (hs : Dsk.Sim m' r') {L' : Nat} (hl : Dsk.load m' r' ≤ L') : BTurned w d F rd G w2 L' := by
  obtain ⟨F1, h1, h2, h3⟩ := t
  obtain ⟨G2, k1, k2, k3⟩ := hr
  have ap1 : ∀ x ∈ F1, x ∉ G := fun x hx hg => by
    rcases h3 x hx with h4 | h4
    · exact h.apart x h4 hg
    · have := h.ref.lt x hg; omega
  refine ⟨F1, m', G2, r', ⟨h1.only k2 ap1, k1, fun x hx hg => ?_, hs, hl⟩, (h2.mono (fun x hx => .inl (List.mem_append.2 (.inl hx)))).trans k2 (fun x hx => .inl (List.mem_append.2 (.inr hx))), fun x hx => ?_⟩
  · rcases k3 x hg with h4 | h4
    · exact ap1 x hx h4
    · have := h1.lt x hx; omega
  · rcases List.mem_append.1 hx with hx | hx
    · rcases h3 x hx with h4 | h4
      · exact .inl (List.mem_append.2 (.inl h4))
      · exact .inr h4
    · rcases k3 x hx with h4 | h4
      · exact .inl (List.mem_append.2 (.inr h4))
      · right
        have := h2.size
        omega
theorem BTurned.before {w0 : World} (hb : Below w0.heap.size w0 w) (h : BTurned w d F rd G w2 L) : BTurned w0 d F rd G w2 L := by
  obtain ⟨F', m', G', r', h1, h2, h3⟩ := h
  refine ⟨F', m', G', r', h1, ((Only.of_below hb).trans h2 (fun x hx => .inl hx)), fun x hx => ?_⟩
  rcases h3 x hx with h4 | h4
  · exact .inl h4
  · right
    have := hb.size
    omega
theorem BTurned.after (h : BTurned w d F rd G w1 L) (hb : Below w1.heap.size w1 w2) : BTurned w d F rd G w2 L := by
  obtain ⟨F', m', G', r', h1, h2, h3⟩ := h
  exact ⟨F', m', G', r', h1.under hb, h2.under hb, h3⟩
theorem Both.same (h : Both w d F m rd G r L) (hb : Below w.heap.size w w1) : BTurned w d F rd G w1 L := ⟨F, m, G, r, h.under hb, Only.of_below hb, fun _ hx => .inl hx⟩
end
end Go.Proofs.Ytejpefiblodefaa
