/-
  reply: what the document's token answers.
-/
import Derived.Test.YtnodhbgkoedalaaGreatDoorR1
namespace Go.Proofs.YtnodhbgkoedalaaGreatDoor
open Go.RowKit Reply

theorem at_list (s : ByteArray) (k : Nat) (hk : k < s.size) : (s[k]'hk) = s.data.toList.getD k 0 := S_at s.data.toList k hk
theorem size_list (s : ByteArray) : s.data.toList.length = s.size := Array.length_toList
theorem tch_at : ∀ k (hk : k < 15), ((⟨#[33, 35, 36, 37, 38, 39, 42, 43, 45, 46, 94, 95, 96, 124, 126]⟩ : ByteArray)[k]'hk) = tchars.getD k 0 := by
  intro k hk
  have : k = 0 ∨ k = 1 ∨ k = 2 ∨ k = 3 ∨ k = 4 ∨ k = 5 ∨ k = 6 ∨ k = 7 ∨ k = 8 ∨ k = 9 ∨ k = 10 ∨ k = 11 ∨ k = 12 ∨ k = 13 ∨ k = 14 := by omega
  rcases this with rfl | rfl | rfl | rfl | rfl | rfl | rfl | rfl | rfl | rfl | rfl | rfl | rfl | rfl | rfl <;> rfl
theorem tokB_yes {c : UInt8} {x : Nat} (hx : x = c.toNat) (h : (48 ≤ x ∧ x ≤ 57) ∨ (65 ≤ x ∧ x ≤ 90) ∨ (97 ≤ x ∧ x ≤ 122)) : tokB c = true := by
  unfold tokB
  subst hx
  simp only [Bool.or_eq_true, decide_eq_true_eq]
  omega
theorem tokB_else {c : UInt8} {x : Nat} (hx : x = c.toNat) (h : ¬ ((48 ≤ x ∧ x ≤ 57) ∨ (65 ≤ x ∧ x ≤ 90) ∨ (97 ≤ x ∧ x ≤ 122))) : tokB c = tchars.contains c := by
  unfold tokB
  subst hx
  rw [decide_eq_false (by omega), decide_eq_false (by omega), decide_eq_false (by omega)]
  rfl
theorem tok_bad {l : B} {c : UInt8} (hm : c ∈ l) (h : tokB c = false) : tokn l = false := by
  unfold tokn
  have : l.all tokB = false := by rw [List.all_eq_false]; exact ⟨c, hm, by simp [h]⟩
  rw [this]
  rfl
theorem tok_all {l : B} (h : ∀ c ∈ l, tokB c = true) : tokn l = !decide (l = []) := by
  unfold tokn
  have : l.all tokB = true := by rw [List.all_eq_true]; exact h
  rw [this, Bool.true_and]
  cases l <;> rfl
theorem has_next {l : B} {k : Nat} {c : UInt8} (h : k < l.length) : (l.take (k + 1)).contains c = ((l.take k).contains c || (l.getD k 0 == c)) := by
  rw [take_nextU h, List.contains_append]
  rw [List.contains_cons, List.contains_nil, Bool.or_false]
  congr 1
  rw [Bool.eq_iff_iff, beq_iff_eq, beq_iff_eq]
  exact eq_comm

end Go.Proofs.YtnodhbgkoedalaaGreatDoor
