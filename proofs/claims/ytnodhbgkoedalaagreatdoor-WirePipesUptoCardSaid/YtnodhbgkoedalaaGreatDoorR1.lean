/-
  reply: a status's reason, as the program and the document tell it.
-/
import Derived.Test.YtnodhbgkoedalaaGreatDoorR0
namespace Go.Proofs.YtnodhbgkoedalaaGreatDoor
open Go.RowKit Reply

theorem reason_no {s : Int} (h200 : ¬ s = 200) (h201 : ¬ s = 201) (h204 : ¬ s = 204) (h207 : ¬ s = 207) (h400 : ¬ s = 400) (h403 : ¬ s = 403) (h404 : ¬ s = 404) (h405 : ¬ s = 405) (h409 : ¬ s = 409) (h412 : ¬ s = 412) (h413 : ¬ s = 413) (h414 : ¬ s = 414) (h415 : ¬ s = 415) (h422 : ¬ s = 422) (h423 : ¬ s = 423) (h424 : ¬ s = 424) (h431 : ¬ s = 431) (h500 : ¬ s = 500) (h501 : ¬ s = 501) (h505 : ¬ s = 505) (h507 : ¬ s = 507) : reason s = [] := by
  unfold reason table
  simp only [List.find?_cons]
  rw [show ((200 : Int) == s) = false by rw [beq_eq_false_iff_ne]; exact fun e => h200 e.symm]
  simp only []
  rw [show ((201 : Int) == s) = false by rw [beq_eq_false_iff_ne]; exact fun e => h201 e.symm]
  simp only []
  rw [show ((204 : Int) == s) = false by rw [beq_eq_false_iff_ne]; exact fun e => h204 e.symm]
  simp only []
  rw [show ((207 : Int) == s) = false by rw [beq_eq_false_iff_ne]; exact fun e => h207 e.symm]
  simp only []
  rw [show ((400 : Int) == s) = false by rw [beq_eq_false_iff_ne]; exact fun e => h400 e.symm]
  simp only []
  rw [show ((403 : Int) == s) = false by rw [beq_eq_false_iff_ne]; exact fun e => h403 e.symm]
  simp only []
  rw [show ((404 : Int) == s) = false by rw [beq_eq_false_iff_ne]; exact fun e => h404 e.symm]
  simp only []
  rw [show ((405 : Int) == s) = false by rw [beq_eq_false_iff_ne]; exact fun e => h405 e.symm]
  simp only []
  rw [show ((409 : Int) == s) = false by rw [beq_eq_false_iff_ne]; exact fun e => h409 e.symm]
  simp only []
  rw [show ((412 : Int) == s) = false by rw [beq_eq_false_iff_ne]; exact fun e => h412 e.symm]
  simp only []
  rw [show ((413 : Int) == s) = false by rw [beq_eq_false_iff_ne]; exact fun e => h413 e.symm]
  simp only []
  rw [show ((414 : Int) == s) = false by rw [beq_eq_false_iff_ne]; exact fun e => h414 e.symm]
  simp only []
  rw [show ((415 : Int) == s) = false by rw [beq_eq_false_iff_ne]; exact fun e => h415 e.symm]
  simp only []
  rw [show ((422 : Int) == s) = false by rw [beq_eq_false_iff_ne]; exact fun e => h422 e.symm]
  simp only []
  rw [show ((423 : Int) == s) = false by rw [beq_eq_false_iff_ne]; exact fun e => h423 e.symm]
  simp only []
  rw [show ((424 : Int) == s) = false by rw [beq_eq_false_iff_ne]; exact fun e => h424 e.symm]
  simp only []
  rw [show ((431 : Int) == s) = false by rw [beq_eq_false_iff_ne]; exact fun e => h431 e.symm]
  simp only []
  rw [show ((500 : Int) == s) = false by rw [beq_eq_false_iff_ne]; exact fun e => h500 e.symm]
  simp only []
  rw [show ((501 : Int) == s) = false by rw [beq_eq_false_iff_ne]; exact fun e => h501 e.symm]
  simp only []
  rw [show ((505 : Int) == s) = false by rw [beq_eq_false_iff_ne]; exact fun e => h505 e.symm]
  simp only []
  rw [show ((507 : Int) == s) = false by rw [beq_eq_false_iff_ne]; exact fun e => h507 e.symm]
  simp only []
  rfl

end Go.Proofs.YtnodhbgkoedalaaGreatDoor
