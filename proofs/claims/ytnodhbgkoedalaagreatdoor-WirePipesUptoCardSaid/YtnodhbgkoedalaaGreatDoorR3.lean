/-
  reply: what the document's Trim, Lower and Digits answer.
-/
import Derived.Test.YtnodhbgkoedalaaGreatDoorR2
import Derived.Lib.ConvBytes
namespace Go.Proofs.YtnodhbgkoedalaaGreatDoor
open Go.RowKit Reply

/-! ### Trim -/
def wB (c : UInt8) : Bool := ([32, 9] : List UInt8).contains c
theorem wB_is (c : UInt8) {x : Nat} (hx : x = c.toNat) : wB c = (decide (x = 32) || decide (x = 9)) := by
  subst hx
  unfold wB
  rw [Bool.eq_iff_iff]
  simp only [List.contains_cons, List.contains_nil, Bool.or_false, Bool.or_eq_true, beq_iff_eq, decide_eq_true_eq]
  constructor
  · rintro (rfl | rfl)
    · exact .inl rfl
    · exact .inr rfl
  · rintro (h | h)
    · exact .inl (UInt8.toNat_inj.1 h)
    · exact .inr (UInt8.toNat_inj.1 h)
/-- White taken off at the left, then at the right. -/
def rtrim (l : B) : B := Lib.trimRightS (Lib.trimLeftS l [32, 9]) [32, 9]
theorem dropWhile_len (p : UInt8 → Bool) : ∀ l : B, (l.dropWhile p).length ≤ l.length
  | [] => Nat.le_refl _
  | x :: l => by
    rw [List.dropWhile_cons]
    split
    · have := dropWhile_len p l; simp; omega
    · exact Nat.le_refl _
theorem dropWhile_same (p : UInt8 → Bool) (l : B) (h : l.length ≤ (l.dropWhile p).length) : l.dropWhile p = l := by
  cases l with
  | nil => rfl
  | cons x l =>
    rw [List.dropWhile_cons] at h ⊢
    split
    · rename_i hp
      rw [if_pos hp] at h
      have := dropWhile_len p l
      simp at h
      omega
    · rfl
theorem left_len (l : B) : (Lib.trimLeftS l [32, 9]).length ≤ l.length := dropWhile_len _ l
theorem right_len (l : B) : (Lib.trimRightS l [32, 9]).length ≤ l.length := by
  unfold Lib.trimRightS
  rw [List.length_reverse]
  have := dropWhile_len (([32, 9] : List UInt8).contains ·) l.reverse
  rwa [List.length_reverse] at this
theorem left_same {l : B} (h : l.length ≤ (Lib.trimLeftS l [32, 9]).length) : Lib.trimLeftS l [32, 9] = l := dropWhile_same _ l h
theorem right_same {l : B} (h : l.length ≤ (Lib.trimRightS l [32, 9]).length) : Lib.trimRightS l [32, 9] = l := by
  unfold Lib.trimRightS at h ⊢
  rw [List.length_reverse] at h
  rw [dropWhile_same _ l.reverse (by rw [List.length_reverse]; exact h), List.reverse_reverse]
/-- Either way nothing is taken off. -/
theorem trim_iff (l : B) : decide (rtrim l = l) = decide (trim l = l) := by
  refine decide_eq_decide.2 ⟨fun h => ?_, fun h => ?_⟩
  · unfold rtrim at h
    have a := right_len (Lib.trimLeftS l [32, 9])
    have b := left_len l
    rw [h] at a
    have c := left_same a
    rw [c] at h
    unfold trim Lib.trimS
    rw [h, c]
  · unfold trim Lib.trimS at h
    have a := left_len (Lib.trimRightS l [32, 9])
    have b := right_len l
    rw [h] at a
    have c := right_same a
    rw [c] at h
    unfold rtrim
    rw [h, c]
theorem left_white {c : UInt8} {l : B} (h : wB c = true) : Lib.trimLeftS (c :: l) [32, 9] = Lib.trimLeftS l [32, 9] := by
  unfold Lib.trimLeftS
  rw [List.dropWhile_cons]
  unfold wB at h
  rw [if_pos h]
theorem left_else {c : UInt8} {l : B} (h : wB c = false) : Lib.trimLeftS (c :: l) [32, 9] = c :: l := by
  unfold Lib.trimLeftS
  rw [List.dropWhile_cons]
  unfold wB at h
  rw [h]
  rfl
theorem right_white {c : UInt8} {l : B} (h : wB c = true) : Lib.trimRightS (l ++ [c]) [32, 9] = Lib.trimRightS l [32, 9] := by
  unfold Lib.trimRightS
  rw [List.reverse_append, List.reverse_singleton, List.singleton_append, List.dropWhile_cons]
  unfold wB at h
  rw [if_pos h]
theorem right_else {c : UInt8} {l : B} (h : wB c = false) : Lib.trimRightS (l ++ [c]) [32, 9] = l ++ [c] := by
  unfold Lib.trimRightS
  rw [List.reverse_append, List.reverse_singleton, List.singleton_append, List.dropWhile_cons]
  unfold wB at h
  rw [h]
  simp
theorem S_cons (l : B) (h : l ≠ []) : ∃ c r, l = c :: r := by
  cases l with
  | nil => exact absurd rfl h
  | cons c r => exact ⟨c, r, rfl⟩
theorem S_head (c : UInt8) (r : B) (h : 0 < (S (c :: r)).size) : ((S (c :: r))[0]'h) = c := rfl
theorem S_last (l : B) (c : UInt8) (h : l.length < (S (l ++ [c])).size) : ((S (l ++ [c]))[l.length]'h) = c := by
  rw [S_at]
  simp
theorem S_tail (c : UInt8) (r : B) : (S (c :: r)).extract 1 (r.length + 1) = S r := by rw [S_extract]; simp
theorem S_init (l : B) (c : UInt8) : (S (l ++ [c])).extract 0 l.length = S l := by rw [S_extract]; simp
end Go.Proofs.YtnodhbgkoedalaaGreatDoor
