/-
  The plain mathematics of DiskWhole: each write fills a sector with its own number; what a sector holds behind a crash is one write's number, not older than the last flush.
-/
import Derived.Test.YtieodkjaoocmpaaDiskMath
namespace Go.Proofs.Ytieodkjaoocmpaa
namespace Dsk

/-- A sector full of v. -/
def rep (v : Nat) : List Nat := List.replicate 512 v
theorem rep_length (v : Nat) : (rep v).length = 512 := List.length_replicate
theorem sec_rep (v : Nat) : sec (rep v) = rep v := sec_full (rep_length v)
theorem rep_lt {v : Nat} (h : v < 256) : ∀ x ∈ rep v, x < 256 := fun x hx => by rw [(List.mem_replicate.1 hx).2]; exact h
theorem rep_getD {v j : Nat} (h : j < 512) : (rep v).getD j 0 = v := by
  unfold rep
  rw [List.getD_eq_getElem?_getD, List.getElem?_replicate, if_pos h]
  rfl
theorem sec_nil : sec [] = rep 0 := by
  unfold sec rep
  rw [List.nil_append, List.take_replicate, Nat.min_self]

/-- The last of the first i writes that goes to t, counted from 1. -/
def last (s : Nat → Nat) : Nat → Nat → Nat
  | 0, _ => 0
  | i + 1, t => if s i = t then i + 1 else last s i t
theorem last_le (s : Nat → Nat) (t : Nat) : ∀ i, last s i t ≤ i
  | 0 => Nat.le_refl _
  | i + 1 => by
    have := last_le s t i
    unfold last
    split <;> omega
theorem last_at (s : Nat → Nat) (t : Nat) : ∀ i, 0 < last s i t → s (last s i t - 1) = t
  | 0, h => absurd h (by show ¬ 0 < 0; omega)
  | i + 1, h => by
    unfold last at h ⊢
    split
    · rename_i e; exact e
    · rename_i e
      rw [if_neg e] at h
      exact last_at s t i h

/-- What a sector t may hold. -/
def Fits (s : Nat → Nat) (lo hi t : Nat) (l : List Nat) : Prop := ∃ v, sec l = rep v ∧ lo ≤ v ∧ v ≤ hi ∧ (0 < v → s (v - 1) = t)
theorem Fits.more {s : Nat → Nat} {lo hi t : Nat} {l : List Nat} (h : Fits s lo hi t l) : Fits s lo (hi + 1) t l := by
  obtain ⟨v, h1, h2, h3, h4⟩ := h
  exact ⟨v, h1, h2, by omega, h4⟩

/-- The disk of two sectors behind i writes. -/
structure Whole (s lo : Nat → Nat) (i : Nat) (m : DM) : Prop where
  len : m.dur.length = 2
  fuel : m.fuel = -1
  dead : m.dead = false
  wlen : m.wait.length ≤ i
  dur : ∀ t, t < 2 → Fits s (lo t) i t (m.dur.getD t [])
  wait : ∀ p ∈ m.wait, Fits s (lo p.1) i p.1 p.2
  seen : ∀ t, t < 2 → sec (m.seen.getD t []) = rep (last s i t)
theorem getD_set {α : Type} (l : List α) (i j : Nat) (a d : α) (hi : i < l.length) : (l.set i a).getD j d = if i = j then a else l.getD j d := by
  simp only [List.getD_eq_getElem?_getD, List.getElem?_set]
  by_cases h : i = j
  · subst h; rw [if_pos rfl, if_pos hi, if_pos rfl]; rfl
  · rw [if_neg h, if_neg h]

theorem Whole.start (s : Nat → Nat) : Whole s (fun _ => 0) 0 (fresh 2) where
  len := rfl
  fuel := rfl
  dead := rfl
  wlen := Nat.le_refl _
  dur := fun t ht => ⟨0, by
    obtain rfl | rfl : t = 0 ∨ t = 1 := by omega
    · exact sec_nil
    · exact sec_nil, Nat.le_refl _, Nat.le_refl _, fun h => absurd h (Nat.lt_irrefl 0)⟩
  wait := fun p hp => by cases hp
  seen := fun t ht => by
    obtain rfl | rfl : t = 0 ∨ t = 1 := by omega
    · exact sec_nil
    · exact sec_nil
theorem Whole.write_eq {s lo : Nat → Nat} {i : Nat} {m : DM} (h : Whole s lo i m) (hs : s i < 2) : m.write (s i : Nat) (rep (i + 1)) = { m with wait := m.wait ++ [(s i, rep (i + 1))] } ∧ m.writeErr (s i : Nat) 512 = 0 := by
  have h1 : ¬ (¬ ((0 : Int) ≤ (s i : Nat) ∧ ((s i : Nat) : Int) < m.dur.length) ∨ 512 < (rep (i + 1)).length) := by
    rw [rep_length, h.len]
    omega
  have h2 : ¬ (¬ ((0 : Int) ≤ (s i : Nat) ∧ ((s i : Nat) : Int) < m.dur.length) ∨ 512 < 512) := by
    rw [h.len]
    omega
  have hf : m.fuel ≠ 0 := by rw [h.fuel]; decide
  have hb : m.burn = m := by unfold DM.burn; rw [if_pos h.fuel]
  constructor
  · unfold DM.write
    rw [if_neg h1, if_neg hf, hb]
    simp [h.dead]
  · unfold DM.writeErr
    rw [if_neg h2, if_neg hf, h.dead]
    rfl
theorem Whole.write {s lo : Nat → Nat} {i : Nat} {m : DM} (h : Whole s lo i m) (hs : s i < 2) (hlo : ∀ t, lo t ≤ i) : Whole s lo (i + 1) (m.write (s i : Nat) (rep (i + 1))) := by
  rw [(h.write_eq hs).1]
  refine ⟨h.len, h.fuel, h.dead, ?_, fun t ht => (h.dur t ht).more, fun p hp => ?_, fun t ht => ?_⟩
  · show (m.wait ++ [_]).length ≤ _
    rw [List.length_append]
    have := h.wlen
    simp
    omega
  · rcases List.mem_append.1 hp with hp | hp
    · exact (h.wait p hp).more
    · obtain rfl : p = (s i, rep (i + 1)) := by simpa using hp
      exact ⟨i + 1, sec_rep _, Nat.le_succ_of_le (hlo (s i)), Nat.le_refl _, fun _ => rfl⟩
  · show sec ((apply (m.wait ++ [(s i, rep (i + 1))]) m.dur).getD t []) = _
    rw [apply_snoc, getD_set _ _ _ _ _ (by rw [apply_length, h.len]; exact hs)]
    unfold last
    by_cases e : s i = t
    · rw [if_pos e, if_pos e]
      exact sec_rep _
    · rw [if_neg e, if_neg e]
      exact h.seen t ht
theorem Whole.flush_eq {s lo : Nat → Nat} {i : Nat} {m : DM} (h : Whole s lo i m) : m.flush = { m with dur := m.seen, wait := [] } ∧ m.flushErr = 0 := by
  have hf : m.fuel ≠ 0 := by rw [h.fuel]; decide
  have hb : m.burn = m := by unfold DM.burn; rw [if_pos h.fuel]
  constructor
  · unfold DM.flush
    rw [hb, if_neg hf]
    simp [h.dead]
  · unfold DM.flushErr
    rw [if_neg hf, h.dead]
    rfl
theorem Whole.flush {s lo : Nat → Nat} {i : Nat} {m : DM} (h : Whole s lo i m) : Whole s (fun t => last s i t) i m.flush := by
  rw [h.flush_eq.1]
  refine ⟨by show m.seen.length = 2; rw [DM.seen_length]; exact h.len, h.fuel, h.dead, Nat.zero_le _, fun t ht => ?_, fun p hp => (by cases hp), fun t ht => h.seen t ht⟩
  exact ⟨last s i t, h.seen t ht, Nat.le_refl _, last_le s t i, last_at s t i⟩
theorem crashD_fits (s lo : Nat → Nat) (i : Nat) (w : List (Nat × List Nat)) : ∀ (k : List Bool) (d : List (List Nat)), d.length = 2 → (∀ t, t < 2 → Fits s (lo t) i t (d.getD t [])) → (∀ p ∈ w, Fits s (lo p.1) i p.1 p.2) → ∀ t, t < 2 → Fits s (lo t) i t ((crashD w k d).getD t []) := by
  induction w with
  | nil => intro k d _ hd _ t ht; exact hd t ht
  | cons p r ih =>
    intro k d hl hd hw t ht
    simp only [crashD]
    refine ih _ _ ?_ (fun u hu => ?_) (fun q hq => hw q (by simp [hq])) t ht
    · split
      · rw [List.length_set]; exact hl
      · exact hl
    · split
      · by_cases hp : p.1 < d.length
        · rw [getD_set _ _ _ _ _ hp]
          by_cases e : p.1 = u
          · rw [if_pos e, ← e]; exact hw p (by simp)
          · rw [if_neg e]; exact hd u hu
        · rw [List.set_eq_of_length_le (by omega)]; exact hd u hu
      · exact hd u hu
/-- What is read behind the crash. -/
theorem Whole.crash {s lo : Nat → Nat} {i : Nat} {m : DM} (h : Whole s lo i m) (k : List Bool) : ∀ t, t < 2 → Fits s (lo t) i t ((m.crash k).seen.getD t []) ∧ (m.crash k).readErr (t : Nat) = 0 := fun t ht => by
  refine ⟨crashD_fits s lo i m.wait k m.dur h.len h.dur h.wait t ht, ?_⟩
  unfold DM.readErr
  have h1 : ((t : Nat) : Int) < ((m.crash k).dur.length : Nat) := by
    show _ < (((crashD m.wait k m.dur).length : Nat) : Int)
    rw [crashD_length, h.len]
    omega
  have h2 : ¬ ¬ ((0 : Int) ≤ (t : Nat) ∧ ((t : Nat) : Int) < ((m.crash k).dur.length : Nat)) := by
    intro c; exact c ⟨by omega, h1⟩
  rw [if_neg h2]
  rfl

/-- What the flush behind write fl leaves as the least. -/
def least (s : Nat → Nat) (fl i t : Nat) : Nat := if fl < i then last s (fl + 1) t else 0
theorem least_le (s : Nat → Nat) (fl i t : Nat) : least s fl i t ≤ i := by
  unfold least
  have := last_le s t (fl + 1)
  split <;> omega
theorem least_other {s : Nat → Nat} {fl i : Nat} (h : i ≠ fl) : least s fl (i + 1) = least s fl i := by
  funext t
  unfold least
  by_cases h1 : fl < i
  · rw [if_pos h1, if_pos (by omega)]
  · rw [if_neg h1, if_neg (by omega)]
theorem least_at {s : Nat → Nat} {fl : Nat} : least s fl (fl + 1) = fun t => last s (fl + 1) t := by
  funext t
  unfold least
  rw [if_pos (by omega)]
theorem least_zero (s : Nat → Nat) (fl : Nat) : least s fl 0 = fun _ => 0 := by
  funext t
  unfold least
  rw [if_neg (by omega)]
end Dsk
end Go.Proofs.Ytieodkjaoocmpaa
