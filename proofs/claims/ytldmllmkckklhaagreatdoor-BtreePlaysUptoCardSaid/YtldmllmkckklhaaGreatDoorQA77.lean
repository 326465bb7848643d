/-
  docketlaw06: pairs taken away one by one, in plain words.
-/
import Derived.Test.YtldmllmkckklhaaGreatDoorQA76
namespace Go.Proofs.YtldmllmkckklhaaGreatDoor
open Wal

theorem stepE_put {es : List En} (hr : Rises es) (k v : List Nat) : (putE es k v).length ≤ es.length + 1 := by
  have h1 := del_length es k hr
  unfold delE at h1
  unfold putE
  rw [List.length_append] at h1 ⊢
  rw [List.length_cons]
  omega
theorem has_no {X : List En} {k : List Nat} (h : ∀ e ∈ X, e.1 ≠ k) : hasK X k = false := decide_eq_false fun ⟨e, he, hk⟩ => h e he hk
theorem lt_ne {a b : List Nat} (h : ltB a b = true) : a ≠ b := fun e => by rw [e, ltB_irrefl] at h; cases h
theorem drop_del {es : List En} (hr : Rises es) {i : Nat} (hi : i < es.length) : hasK (es.drop i) es[i].1 = true ∧ delE (es.drop i) es[i].1 = es.drop (i + 1) ∧ hasK (es.drop (i + 1)) es[i].1 = false := by
  have hd : Rises (es.drop i) := hr.sublist (List.drop_sublist _ _)
  rw [List.drop_eq_getElem_cons hi] at hd ⊢
  obtain ⟨h1, h2⟩ := List.pairwise_cons.1 hd
  refine ⟨decide_eq_true ⟨es[i], List.mem_cons_self .., rfl⟩, ?_, has_no fun e he hk => lt_ne (h1 e he) hk.symm⟩
  have := del_mid (A := []) (B := [es[i]]) (C := es.drop (i + 1)) (k := es[i].1) (by simp) h1
  simpa [delE, under, over, ltB_irrefl] using this
theorem take_del {es : List En} (hr : Rises es) {j : Nat} (hj : j < es.length) : hasK (es.take (j + 1)) es[j].1 = true ∧ delE (es.take (j + 1)) es[j].1 = es.take j ∧ hasK (es.take j) es[j].1 = false := by
  have hd : Rises (es.take (j + 1)) := hr.sublist (List.take_sublist _ _)
  rw [List.take_succ_eq_append_getElem hj] at hd ⊢
  obtain ⟨h1, _, h3⟩ := rises_append.1 hd
  have h4 : ∀ e ∈ es.take j, ltB e.1 es[j].1 = true := fun e he => h3 e he es[j] (by simp)
  refine ⟨decide_eq_true ⟨es[j], List.mem_append_right _ (List.mem_cons_self ..), rfl⟩, ?_, has_no fun e he hk => lt_ne (h4 e he) hk⟩
  have := del_mid (A := es.take j) (B := [es[j]]) (C := []) (k := es[j].1) h4 (by simp)
  simpa [delE, under, over, ltB_irrefl] using this
/-- A key with a zero behind it comes next. -/
theorem lt_next : ∀ (a k : List Nat), ltB a (k ++ [0]) = (ltB a k || decide (a = k))
  | [], [] => rfl
  | [], y :: k => rfl
  | x :: a, [] => by
    have : ltB (x :: a) ([] ++ [0]) = false := by
      simp only [List.nil_append]
      cases a <;> simp [ltB]
    rw [this]
    rfl
  | x :: a, y :: k => by
    have ih := lt_next a k
    simp only [List.cons_append, ltB, ih]
    by_cases h1 : x < y
    · simp [h1]
    · by_cases h2 : x = y
      · subst h2
        simp
      · have h3 : (x == y) = false := by simp [h2]
        simp [h1, h2, h3]
theorem from_next {es : List En} (hr : Rises es) {j : Nat} (hj : j < es.length) : fromE es (es[j].1 ++ [0]) = es.drop (j + 1) := by
  have hs : es = es.take (j + 1) ++ es.drop (j + 1) := (List.take_append_drop _ _).symm
  have hd : Rises (es.take (j + 1) ++ es.drop (j + 1)) := by rw [← hs]; exact hr
  obtain ⟨h1, _, h3⟩ := rises_append.1 hd
  have e1 : es[j] ∈ es.take (j + 1) := by rw [List.take_succ_eq_append_getElem hj]; exact List.mem_append_right _ (List.mem_cons_self ..)
  have hl : fromE (es.take (j + 1)) (es[j].1 ++ [0]) = [] := fromE_low fun e he => by
    rw [lt_next]
    rw [List.take_succ_eq_append_getElem hj] at he h1
    rcases List.mem_append.1 he with he | he
    · rw [(rises_append.1 h1).2.2 e he es[j] (by simp)]; rfl
    · have : e = es[j] := by simpa using he
      rw [this]; simp
  have hh : fromE (es.drop (j + 1)) (es[j].1 ++ [0]) = es.drop (j + 1) := List.filter_eq_self.2 fun e he => by
    have h4 := h3 _ e1 e he
    have h5 := ltB_asymm h4
    have h6 : e.1 ≠ es[j].1 := fun h => lt_ne h4 h.symm
    rw [lt_next, h5, decide_eq_false h6]
    rfl
  have h7 : fromE es (es[j].1 ++ [0]) = fromE (es.take (j + 1)) (es[j].1 ++ [0]) ++ fromE (es.drop (j + 1)) (es[j].1 ++ [0]) := by rw [← fromE_append, List.take_append_drop]
  rw [h7, hl, hh, List.nil_append]
end Go.Proofs.YtldmllmkckklhaaGreatDoor
