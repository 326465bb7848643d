/-
  xml, without a run: how much the pieces of the reading leave.
-/
import Derived.Test.YteefjmdallpihaaGreatDoorXmA
import Derived.Test.YteefjmdallpihaaGreatDoorReM
namespace Go.Proofs.YteefjmdallpihaaGreatDoor
namespace Xml
open Go.Lib
variable {s s' : St} {a : B} {t : B}
theorem take_ok (s : St) (n : Nat) (h : n ≤ s.rest.length) : (take s n).2.rest.length + n = s.rest.length ∧ (take s n).2.spaces = s.spaces := by
  refine ⟨?_, rfl⟩
  show (s.rest.drop n).length + n = _
  rw [List.length_drop]
  omega
theorem nameLen_le' (l : B) : nameLen l ≤ l.length := by
  cases l with
  | nil => exact Nat.le_refl _
  | cons c r =>
    have : nameRest r ≤ r.length := by unfold nameRest; exact (List.takeWhile_sublist _).length_le
    show (if begins c = true then nameRest r + 1 else 0) ≤ r.length + 1
    split <;> omega
theorem name_ok (h : name s = .ok a s') : s'.rest.length + a.length = s.rest.length ∧ 0 < a.length ∧ s'.spaces = s.spaces := by
  unfold name at h
  have := nameLen_le' s.rest
  split at h
  · cases h
  · injection h with h1 h2
    subst h1 h2
    refine ⟨?_, ?_, rfl⟩
    · show (s.rest.drop _).length + _ = _
      rw [List.length_drop, List.length_take]
      omega
    · rw [List.length_take]
      omega
theorem skip_le (s : St) (t : B) : (skip s t).2.rest.length ≤ s.rest.length ∧ (skip s t).2.spaces = s.spaces := ⟨trimPrefix_le _ _, rfl⟩
theorem skip_lt (s : St) (t : B) (h : (skip s t).1 = true) : (skip s t).2.rest.length + t.length = s.rest.length := by
  have h1 : hasPrefix s.rest t = true := h
  show (trimPrefix s.rest t).length + t.length = _
  unfold trimPrefix
  rw [if_pos h1, List.length_drop]
  have : t.length ≤ s.rest.length := (List.isPrefixOf_iff_prefix.1 h1).length_le
  omega
theorem skip_no (s : St) (t : B) (h : (skip s t).1 = false) : (skip s t).2 = s := by
  have h1 : hasPrefix s.rest t = false := h
  unfold skip trimPrefix
  rw [if_neg (by rw [h1]; simp)]
theorem need_ok {u : Unit} (h : need s t = .ok u s') : s'.rest.length + t.length = s.rest.length ∧ s'.spaces = s.spaces := by
  unfold need at h
  split at h
  · rename_i hp
    injection h with _ h2
    subst h2
    exact ⟨skip_lt s t hp, rfl⟩
  · cases h
theorem upto_ok (h : upto s t = .ok a s') : s'.rest.length + t.length + a.length = s.rest.length ∧ s'.spaces = s.spaces := by
  unfold upto at h
  split at h
  · rename_i hp
    have e := congrArg List.length (Reply.cut_back hp)
    injection h with h1 h2
    subst h1 h2
    refine ⟨?_, rfl⟩
    rw [List.length_append, List.length_append] at e
    show (cut s.rest t).2.1.length + _ + _ = _
    omega
  · cases h
theorem white_le (s : St) : (white s).2.rest.length ≤ s.rest.length ∧ (white s).2.spaces = s.spaces := ⟨(List.dropWhile_sublist _).length_le, rfl⟩
theorem white_lt (s : St) (h : (white s).1 = true) : (white s).2.rest.length < s.rest.length := of_decide_eq_true h
theorem white_no (s : St) (h : (white s).1 = false) : (white s).2 = s := by
  have h1 : ¬ (trimLeftS s.rest whites).length < s.rest.length := of_decide_eq_false h
  have h2 : trimLeftS s.rest whites <:+ s.rest := List.dropWhile_suffix _
  have e : trimLeftS s.rest whites = s.rest := h2.eq_of_length (by have := h2.length_le; omega)
  show ({ s with rest := trimLeftS s.rest whites } : St) = s
  rw [e]
theorem fullName_ok (h : fullName s = .ok a s') : s'.rest.length + a.length = s.rest.length ∧ 0 < a.length ∧ s'.spaces = s.spaces := by
  unfold fullName at h
  cases hn : name s with
  | bad n => rw [hn] at h; cases h
  | ok n s1 =>
    rw [hn] at h
    have a1 := name_ok hn
    simp only [Res.then] at h
    have k := skip_le s1 [58]
    split at h
    · rename_i hk
      have k2 := skip_lt s1 [58] hk
      cases hm : name (skip s1 [58]).2 with
      | bad n => rw [hm] at h; cases h
      | ok m s2 =>
        rw [hm] at h
        have a2 := name_ok hm
        injection h with h1 h2
        subst h1 h2
        refine ⟨?_, ?_, a2.2.2.trans (k.2.trans a1.2.2)⟩
        · simp only [List.length_append, List.length_singleton] at k2 ⊢
          omega
        · simp; omega
    · rename_i hk
      rw [skip_no s1 [58] (by simpa using hk)] at h
      injection h with h1 h2
      subst h1 h2
      exact a1
theorem comment_ok {b : Bool} (h : comment s = .ok b s') : s'.rest.length ≤ s.rest.length ∧ (b = true → s'.rest.length < s.rest.length) ∧ (b = false → s' = s) ∧ s'.spaces = s.spaces := by
  unfold comment at h
  split at h
  · rename_i hk
    have k := skip_lt s tCom hk
    cases hu : upto (skip s tCom).2 [45, 45] with
    | bad n => rw [hu] at h; cases h
    | ok a s1 =>
      rw [hu] at h
      have u := upto_ok hu
      simp only [Res.then] at h
      cases hn : need s1 [62] with
      | bad n => rw [hn] at h; cases h
      | ok a s2 =>
        rw [hn] at h
        have n := need_ok hn
        injection h with h1 h2
        subst h1 h2
        have e : tCom.length = 4 := rfl
        exact ⟨by omega, fun _ => by omega, fun e => by (cases e), n.2.trans (u.2.trans (skip_le s tCom).2)⟩
  · injection h with h1 h2
    subst h1 h2
    exact ⟨Nat.le_refl _, fun e => by (cases e), fun _ => rfl, rfl⟩
theorem instruction_ok {b : Bool} (h : instruction s = .ok b s') : s'.rest.length ≤ s.rest.length ∧ (b = true → s'.rest.length < s.rest.length) ∧ (b = false → s' = s) ∧ s'.spaces = s.spaces := by
  unfold instruction at h
  split at h
  · rename_i hk
    have k := skip_lt s tPi hk
    cases hu : name (skip s tPi).2 with
    | bad n => rw [hu] at h; cases h
    | ok a s1 =>
      rw [hu] at h
      have u := name_ok hu
      simp only [Res.then] at h
      split at h
      · cases h
      · cases hn : upto s1 tPiEnd with
        | bad n => rw [hn] at h; cases h
        | ok a s2 =>
          rw [hn] at h
          have n := upto_ok hn
          injection h with h1 h2
          subst h1 h2
          have e : tPi.length = 2 := rfl
          exact ⟨by omega, fun _ => by omega, fun e => by (cases e), n.2.trans (u.2.2.trans (skip_le s tPi).2)⟩
  · injection h with h1 h2
    subst h1 h2
    exact ⟨Nat.le_refl _, fun e => by (cases e), fun _ => rfl, rfl⟩
theorem remark_ok {b : Bool} (h : remark s = .ok b s') : s'.rest.length ≤ s.rest.length ∧ (b = true → s'.rest.length < s.rest.length) ∧ (b = false → s' = s) ∧ s'.spaces = s.spaces := by
  unfold remark at h
  cases hc : comment s with
  | bad n => rw [hc] at h; cases h
  | ok b1 s1 =>
    rw [hc] at h
    have c := comment_ok hc
    simp only [Res.then] at h
    split at h
    · rename_i hb
      injection h with h1 h2
      subst h1 h2
      exact ⟨c.1, fun _ => c.2.1 hb, fun e => by (cases e), c.2.2.2⟩
    · rename_i hb
      have e := c.2.2.1 (by simpa using hb)
      subst e
      exact instruction_ok h
end Xml
end Go.Proofs.YteefjmdallpihaaGreatDoor
