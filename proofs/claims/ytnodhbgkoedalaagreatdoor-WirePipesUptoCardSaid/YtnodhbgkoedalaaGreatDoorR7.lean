/-
  reply: what the document's Good answers.
-/
import Derived.Test.YtnodhbgkoedalaaGreatDoorR6
namespace Go.Proofs.YtnodhbgkoedalaaGreatDoor
open Go.RowKit Reply

theorem eqd (a b : B) : (a == b) = decide (a = b) := by rw [Bool.eq_iff_iff]; simp
theorem hdr_f1 {h : B × B} (t : tokn h.1 = false) : hdr h = false := by rw [hdr_is, t]; rfl
theorem hdr_f2 {h : B × B} (t : decide (small h.1 = nCL) = true) : hdr h = false := by rw [hdr_is, t]; simp
theorem hdr_f3 {h : B × B} (t : decide (small h.1 = nCo) = true) : hdr h = false := by rw [hdr_is, t]; simp
theorem hdr_f4 {h : B × B} (t : decide (small h.1 = nTE) = true) : hdr h = false := by rw [hdr_is, t]; simp
theorem hdr_f5 {h : B × B} (t : decide (trim h.2 = h.2) = false) : hdr h = false := by rw [hdr_is, t]; simp
theorem hdr_fv {h : B × B} (t : val h.2 = false) : hdr h = false := by rw [hdr_is, t]; simp
theorem hdr_t {h : B × B} (t1 : tokn h.1 = true) (t2 : decide (small h.1 = nCL) = false) (t3 : decide (small h.1 = nCo) = false) (t4 : decide (small h.1 = nTE) = false) (t5 : decide (trim h.2 = h.2) = true) (tv : val h.2 = true) : hdr h = true := by rw [hdr_is, t1, t2, t3, t4, t5, tv]; rfl
theorem val_bad {l : B} {c : UInt8} (hm : c ∈ l) (h : valB c = false) : val l = false := by
  unfold val
  rw [List.all_eq_false]
  exact ⟨c, hm, by simp [h]⟩
theorem val_all {l : B} (h : ∀ c ∈ l, valB c = true) : val l = true := by
  unfold val
  rw [List.all_eq_true]
  exact h
theorem valB_of {c : UInt8} {x : Nat} (hx : x = c.toNat) (h : (32 ≤ x ∨ x = 9) ∧ x ≠ 127) : valB c = true := by
  subst hx
  unfold valB
  rcases h with ⟨h | h, h2⟩
  · rw [decide_eq_false (by omega : ¬ c.toNat < 32), decide_eq_true h2]; rfl
  · rw [decide_eq_false (by omega : ¬ c.toNat ≠ 9), decide_eq_true h2]; simp
theorem valB_no {c : UInt8} {x : Nat} (hx : x = c.toNat) (h : ¬ ((32 ≤ x ∨ x = 9) ∧ x ≠ 127)) : valB c = false := by
  subst hx
  unfold valB
  by_cases h2 : c.toNat = 127
  · rw [decide_eq_false (by omega : ¬ c.toNat ≠ 127)]; simp
  · rw [decide_eq_true (by omega : c.toNat < 32), decide_eq_true (by omega : c.toNat ≠ 9)]; rfl
end Go.Proofs.YtnodhbgkoedalaaGreatDoor
