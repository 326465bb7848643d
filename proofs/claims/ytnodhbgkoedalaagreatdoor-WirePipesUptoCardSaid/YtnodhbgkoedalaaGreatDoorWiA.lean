/-
  wire: a reader that takes pieces off the front of bytes (a line, or so many bytes), without a run: what it answers of the bytes, of more bytes, of fewer (P11.1, P11.4).
-/
import Derived.Lib.IndexMore
namespace Go.Proofs.YtnodhbgkoedalaaGreatDoor
namespace Wire

abbrev B := List UInt8
/-- What a reader is: is it done; how many bytes are next (none: a line); what it makes of a piece (a status, or 0). -/
structure Mach (S : Type) where
  whole : S → Bool
  wants : S → Option Nat
  take : S → B → Int × S
/-- How many bytes a line has with its end; of one without end among the first 1026: 1026. -/
def lineSize (l : B) : Nat := match (l.take 1026).findIdx? (· == 10) with
  | some i => i + 1
  | none => 1026
def size (l : B) : Option Nat → Nat
  | none => lineSize l
  | some k => k
theorem lineSize_pos (l : B) : 0 < lineSize l := by
  unfold lineSize
  split <;> omega
theorem lineSize_le (l : B) : lineSize l ≤ 1026 := by
  unfold lineSize
  split
  · rename_i i h
    obtain ⟨h1, _⟩ := List.findIdx?_eq_some_iff_getElem.1 h
    rw [List.length_take] at h1
    omega
  · omega
/-- Is a line, or what stands for it, there, then it is the same with more bytes behind. -/
theorem lineSize_app {l : B} (h : lineSize l ≤ l.length) (z : B) : lineSize (l ++ z) = lineSize l := by
  unfold lineSize at h ⊢
  rw [List.take_append]
  cases e : (l.take 1026).findIdx? (· == 10) with
  | some i => rw [List.findIdx?_append, e]; rfl
  | none =>
    rw [e] at h
    simp only at h
    rw [List.findIdx?_append, e, show 1026 - l.length = 0 from by omega]
    simp
/-- Is it not there, then with more bytes behind it is longer than what was. -/
theorem lineSize_far {l : B} (h : l.length < lineSize l) (z : B) : l.length < lineSize (l ++ z) := by
  unfold lineSize at h ⊢
  rw [List.take_append]
  cases e : (l.take 1026).findIdx? (· == 10) with
  | some i =>
    rw [e] at h
    simp only at h
    obtain ⟨h1, _⟩ := List.findIdx?_eq_some_iff_getElem.1 e
    rw [List.length_take] at h1
    omega
  | none =>
    rw [e] at h
    simp only at h
    rw [List.findIdx?_append, e]
    cases e2 : (z.take (1026 - l.length)).findIdx? (· == 10) with
    | none => simpa using h
    | some i =>
      simp only [Option.none_or, Option.map_some, List.length_take]
      omega
theorem size_app {l : B} {k : Option Nat} (h : size l k ≤ l.length) (z : B) : size (l ++ z) k = size l k := by
  cases k with
  | none => exact lineSize_app h z
  | some k => rfl
theorem size_far {l : B} {k : Option Nat} (h : l.length < size l k) (z : B) : l.length < size (l ++ z) k := by
  cases k with
  | none => exact lineSize_far h z
  | some k => exact h
section
variable {S : Type} (M : Mach S)
/-- The reader, from a state on, over bytes: how many it takes, what it ends with (0: whole; -1: more; else a status), in which state. -/
inductive Runs : S → B → Nat → Int → S → Prop
  | whole {s : S} {l : B} (h : M.whole s = true) : Runs s l 0 0 s
  | more {s : S} {l : B} (h : M.whole s = false) (hk : l.length < size l (M.wants s)) : Runs s l 0 (-1) s
  | stop {s s' : S} {l : B} {c : Int} (h : M.whole s = false) (hk : size l (M.wants s) ≤ l.length) (hr : M.take s (l.take (size l (M.wants s))) = (c, s')) (hc : c ≠ 0) : Runs s l (size l (M.wants s)) c s'
  | step {s s1 s' : S} {l : B} {t : Nat} {c : Int} (h : M.whole s = false) (hk : size l (M.wants s) ≤ l.length) (hr : M.take s (l.take (size l (M.wants s))) = (0, s1)) (hn : Runs s1 (l.drop (size l (M.wants s))) t c s') : Runs s l (size l (M.wants s) + t) c s'
variable {M} {s s' s2 : S} {l : B} {t t2 : Nat} {c c2 : Int}
/-- It answers one thing alone. -/
theorem Runs.same (h : Runs M s l t c s') (h2 : Runs M s l t2 c2 s2) : t = t2 ∧ c = c2 ∧ s' = s2 := by
  induction h generalizing t2 c2 s2 with
  | whole h =>
    cases h2 with
    | whole _ => exact ⟨rfl, rfl, rfl⟩
    | more h' _ => rw [h] at h'; cases h'
    | stop h' _ _ _ => rw [h] at h'; cases h'
    | step h' _ _ _ => rw [h] at h'; cases h'
  | more h hk =>
    cases h2 with
    | whole h' => rw [h] at h'; cases h'
    | more _ _ => exact ⟨rfl, rfl, rfl⟩
    | stop _ hk' _ _ => omega
    | step _ hk' _ _ => omega
  | stop h hk hr hc =>
    cases h2 with
    | whole h' => rw [h] at h'; cases h'
    | more _ hk' => omega
    | stop _ _ hr' _ =>
      rw [hr] at hr'
      injection hr' with e1 e2
      exact ⟨rfl, e1, e2⟩
    | step _ _ hr' _ =>
      rw [hr] at hr'
      injection hr' with e1 e2
      exact absurd e1 hc
  | step h hk hr _ ih =>
    cases h2 with
    | whole h' => rw [h] at h'; cases h'
    | more _ hk' => omega
    | stop _ _ hr' hc' =>
      rw [hr] at hr'
      injection hr' with e1 e2
      exact absurd e1.symm hc'
    | step _ _ hr' hn' =>
      rw [hr] at hr'
      injection hr' with _ e2
      subst e2
      obtain ⟨a, b, d⟩ := ih hn'
      exact ⟨by rw [a], b, d⟩
theorem Runs.le (h : Runs M s l t c s') : t ≤ l.length := by
  induction h with
  | whole _ => omega
  | more _ _ => omega
  | stop _ hk _ _ => exact hk
  | step _ hk _ _ ih => rw [List.length_drop] at ih; omega
/-- No piece is told to want more. -/
def Sure (M : Mach S) : Prop := ∀ s p, (M.take s p).1 ≠ -1
/-- What is done stays done, whatever comes behind. -/
theorem Runs.app (h : Runs M s l t c s') (hc : c ≠ -1) (z : B) : Runs M s (l ++ z) t c s' := by
  induction h with
  | whole h => exact .whole h
  | more _ _ => exact absurd rfl hc
  | stop h hk hr hc' =>
    have e := size_app hk z
    rw [← e]
    refine .stop h (by rw [e, List.length_append]; omega) ?_ hc'
    rw [e, List.take_append_of_le_length hk, hr]
  | step h hk hr _ ih =>
    have e := size_app hk z
    have i := ih hc
    rw [← List.drop_append_of_le_length hk, ← e] at i
    have r := Runs.step (M := M) h (by rw [e, List.length_append]; omega) (by rw [e, List.take_append_of_le_length hk, hr]) i
    rw [e] at r
    exact r
/-- Where more is wanted, it goes on from there with what comes behind (P11.4). -/
theorem Runs.on (h : Runs M s l t (-1) s') (hs : Sure M) {z : B} (h2 : Runs M s' (l.drop t ++ z) t2 c2 s2) : Runs M s (l ++ z) (t + t2) c2 s2 := by
  generalize hm : (-1 : Int) = m at h
  induction h with
  | whole _ => omega
  | more _ _ => simpa using h2
  | stop _ _ hr _ =>
    exact absurd ((congrArg Prod.fst hr).trans hm.symm) (hs _ _)
  | step h hk hr _ ih =>
    have e := size_app hk z
    rw [List.drop_drop] at ih
    have i := ih h2 hm
    rw [← List.drop_append_of_le_length hk, ← e] at i
    have r := Runs.step (M := M) h (by rw [e, List.length_append]; omega) (by rw [e, List.take_append_of_le_length hk, hr]) i
    rw [e] at r
    rw [Nat.add_assoc]
    exact r
/-- It goes on from where it has come so far. -/
theorem Runs.then {s1 : S} (h : Runs M s l t (-1) s1) (hs : Sure M) : M.whole s1 = false ∧ (l.drop t).length < size (l.drop t) (M.wants s1) := by
  generalize hm : (-1 : Int) = m at h
  induction h with
  | whole _ => omega
  | more h hk => exact ⟨h, by simpa using hk⟩
  | stop _ _ hr _ =>
    exact absurd ((congrArg Prod.fst hr).trans hm.symm) (hs _ _)
  | step _ hk _ _ ih =>
    have i := ih hm
    rw [List.drop_drop] at i
    exact i
theorem Runs.far_aux (h : Runs M s l t c s') (hs : Sure M) {z : B} : c = -1 → (∀ t3, Runs M s' (l.drop t ++ z) t3 0 s2 → (l.drop t).length < t3) → ∀ t2, Runs M s (l ++ z) t2 0 s2 → l.length < t2 := by
  induction h with
  | whole _ => intro hm; omega
  | more _ _ => intro _ key t2 h2; simpa using key t2 (by simpa using h2)
  | stop _ _ hr _ => intro hm; exact absurd ((congrArg Prod.fst hr).trans hm) (hs _ _)
  | step h hk hr hn ih =>
    intro hm key t2 h2
    have e := size_app hk z
    have tl := hn.le
    rw [List.drop_drop] at ih
    have ih := ih hm key
    cases h2 with
    | whole h' => rw [h] at h'; cases h'
    | stop _ _ _ hc => exact absurd rfl hc
    | step _ _ hr' hn' =>
      rw [e, List.take_append_of_le_length hk, hr] at hr'
      injection hr' with _ e2
      subst e2
      rw [e, List.drop_append_of_le_length hk] at hn'
      have i := ih _ hn'
      rw [List.length_drop] at i
      rw [e]
      omega
/-- Where more was wanted, what is whole with more behind takes more than there was. -/
theorem Runs.far (h : Runs M s l t (-1) s') (hs : Sure M) {z : B} (h2 : Runs M s (l ++ z) t2 0 s2) : l.length < t2 := by
  obtain ⟨a, b⟩ := h.then hs
  refine h.far_aux hs rfl (fun t3 r => ?_) t2 h2
  have f := size_far b z
  cases r with
  | whole h' => rw [a] at h'; cases h'
  | stop _ _ _ hc => exact absurd rfl hc
  | step _ _ _ _ => omega
/-- Each beginning of what is whole wants more. -/
theorem Runs.before (h : Runs M s l t 0 s') {j : Nat} (hj : j < t) (h2 : Runs M s (l.take j) t2 c2 s2) : c2 = -1 := by
  by_cases hc : c2 = -1
  · exact hc
  · have a := h2.app hc (l.drop j)
    rw [List.take_append_drop] at a
    obtain ⟨e1, _, _⟩ := h.same a
    have := h2.le
    rw [List.length_take] at this
    omega
end
end Wire
end Go.Proofs.YtnodhbgkoedalaaGreatDoor
