/-
  BtreeMem, plain words: the law's two rows (taken, data) beside the store.
-/
import Derived.Test.YtnogmgnbhcmajaaDoorQM6
namespace Go.Proofs.YtnogmgnbhcmajaaDoor
open Go.RowKit

/-- The law's rows beside the store's blocks: place b of the rows is block b - 1 of f. -/
structure Twin (n : Nat) (f : Nat → Option KB) (T : List Bool) (D : List (List Nat)) : Prop where
  len : T.length = D.length
  few : T.length ≤ n + 1
  zero : T[0]? ≠ some true
  on : ∀ i, (f i).isSome = true ↔ T[i + 1]? = some true
  same : ∀ i l b, f i = some (l, b) → b = false ∧ D[i + 1]? = some l
/-- A row made longer, that place w lies in it. -/
def ext {α : Type} (x : α) (w : Nat) (T : List α) : List α := T ++ List.replicate (w + 1 - T.length) x
theorem ext_at {α : Type} (x : α) (w : Nat) (T : List α) (j : Nat) : (ext x w T)[j]? = if j < T.length then T[j]? else if j < w + 1 then some x else none := by
  unfold ext
  by_cases h : j < T.length
  · rw [if_pos h, List.getElem?_append_left h]
  · rw [if_neg h, List.getElem?_append_right (by omega), List.getElem?_replicate]
    by_cases h2 : j < w + 1
    · rw [if_pos h2, if_pos (by omega)]
    · rw [if_neg h2, if_neg (by omega)]
theorem ext_length {α : Type} (x : α) (w : Nat) (T : List α) : (ext x w T).length = T.length + (w + 1 - T.length) := by simp [ext]
theorem ext_set_at {α : Type} (x y : α) (w : Nat) (T : List α) (j : Nat) : ((ext x w T).set w y)[j]? = if j = w then some y else if j < T.length then T[j]? else if j < w + 1 then some x else none := by
  by_cases h : j = w
  · subst h
    rw [if_pos rfl, List.getElem?_set_self (by rw [ext_length]; omega)]
  · rw [if_neg h, List.getElem?_set_ne (fun e => h e.symm), ext_at]
section
variable {n : Nat} {f : Nat → Option KB} {T : List Bool} {D : List (List Nat)}
theorem Twin.nil (n : Nat) : Twin n (fun _ => none) [] [] := ⟨rfl, by simp, by simp, by simp, by simp⟩
theorem Twin.yes (h : Twin n f T D) {b : Nat} (hb : T[b]? = some true) : ∃ i l, b = i + 1 ∧ i < n ∧ f i = some (l, false) ∧ D[b]? = some l := by
  have hlt := (List.getElem?_eq_some_iff.1 hb).1
  have hf := h.few
  rcases b with _ | i
  · exact absurd hb h.zero
  · obtain ⟨⟨l, fr⟩, hk⟩ := Option.isSome_iff_exists.1 ((h.on i).2 hb)
    obtain ⟨rfl, hd⟩ := h.same i l fr hk
    exact ⟨i, l, rfl, by omega, hk, hd⟩
theorem Twin.no (h : Twin n f T D) {b : Nat} (hb : T[b]? ≠ some true) (i : Nat) (e : b = i + 1) : f i = none := by
  subst e
  rcases hk : f i with _ | k
  · rfl
  · exact absurd ((h.on i).1 (by rw [hk]; rfl)) hb
theorem Twin.want (h : Twin n f T D) {w : Nat} (h1 : 1 ≤ w) (hlow : ∀ j, 1 ≤ j → j < w → T[j]? = some true) (hw : T[w]? ≠ some true) : (w ≤ n → Least n f (w - 1)) ∧ (n < w → ∀ j, j < n → f j ≠ none) := by
  have hlo : ∀ j, j + 1 < w → f j ≠ none := fun j hj e => by
    have := (h.on j).2 (hlow (j + 1) (by omega) hj)
    rw [e] at this
    exact Bool.noConfusion this
  exact ⟨fun hn => ⟨by omega, h.no hw (w - 1) (by omega), fun j hj => hlo j (by omega)⟩, fun hn j hj => hlo j (by omega)⟩
theorem Twin.take (h : Twin n f T D) {w : Nat} (h1 : 1 ≤ w) (hn : w ≤ n) : Twin n (put f (w - 1) (some zeroKB)) ((ext false w T).set w true) ((ext [] w D).set w (List.replicate 512 0)) := by
  have hl := h.len
  have hf := h.few
  refine ⟨?_, ?_, ?_, fun i => ?_, fun i l b e => ?_⟩
  · rw [List.length_set, List.length_set, ext_length, ext_length, hl]
  · rw [List.length_set, ext_length]; omega
  · rw [ext_set_at, if_neg (by omega)]
    split
    · exact h.zero
    · split <;> simp
  · rw [ext_set_at]
    unfold put
    by_cases c : i = w - 1
    · rw [if_pos c, if_pos (by omega)]; simp
    · rw [if_neg c, if_neg (by omega), h.on i]
      by_cases c2 : i + 1 < T.length
      · rw [if_pos c2]
      · rw [if_neg c2, List.getElem?_eq_none (by omega)]
        split <;> simp
  · rw [ext_set_at]
    unfold put at e
    by_cases c : i = w - 1
    · rw [if_pos c] at e
      unfold zeroKB at e
      injection e with e
      injection e with e1 e2
      exact ⟨e2.symm, by rw [if_pos (by omega), e1]⟩
    · rw [if_neg c] at e
      obtain ⟨hb, hd⟩ := h.same i l b e
      have := (List.getElem?_eq_some_iff.1 hd).1
      exact ⟨hb, by rw [if_neg (by omega), if_pos this]; exact hd⟩
theorem Twin.free (h : Twin n f T D) {b : Nat} (hb : T[b]? = some true) : Twin n (put f (b - 1) none) (T.set b false) D := by
  have hlt := (List.getElem?_eq_some_iff.1 hb).1
  have h0 : b ≠ 0 := fun e => by subst e; exact h.zero hb
  refine ⟨by rw [List.length_set]; exact h.len, by rw [List.length_set]; exact h.few, ?_, fun i => ?_, fun i l fr e => ?_⟩
  · rw [List.getElem?_set_ne h0]; exact h.zero
  · unfold put
    by_cases c : i = b - 1
    · rw [if_pos c, show i + 1 = b by omega, List.getElem?_set_self hlt]; simp
    · rw [if_neg c, List.getElem?_set_ne (by omega)]; exact h.on i
  · unfold put at e
    by_cases c : i = b - 1
    · rw [if_pos c] at e; cases e
    · rw [if_neg c] at e; exact h.same i l fr e
theorem Twin.write (h : Twin n f T D) {b : Nat} (hb : T[b]? = some true) (l : List Nat) : Twin n (put f (b - 1) (some (l, false))) T (D.set b l) := by
  have hlt := (List.getElem?_eq_some_iff.1 hb).1
  have hl := h.len
  have h0 : b ≠ 0 := fun e => by subst e; exact h.zero hb
  refine ⟨by rw [List.length_set]; exact h.len, h.few, h.zero, fun i => ?_, fun i m fr e => ?_⟩
  · unfold put
    by_cases c : i = b - 1
    · rw [if_pos c, show i + 1 = b by omega, hb]; simp
    · rw [if_neg c]; exact h.on i
  · unfold put at e
    by_cases c : i = b - 1
    · rw [if_pos c] at e
      injection e with e
      injection e with e1 e2
      exact ⟨e2.symm, by rw [show i + 1 = b by omega, List.getElem?_set_self (by omega), e1]⟩
    · rw [if_neg c] at e
      obtain ⟨a1, a2⟩ := h.same i m fr e
      exact ⟨a1, by rw [List.getElem?_set_ne (by omega)]; exact a2⟩
end
end Go.Proofs.YtnogmgnbhcmajaaDoor
