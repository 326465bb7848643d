/-
  reply: a status's reason, as the program and the document tell it.
-/
import Derived.Test.YtdojchamdcokiaaDoorR0
namespace Go.Proofs.YtdojchamdcokiaaDoor
open Go.RowKit Reply

theorem reason_no {s : Int} (h200 : ¬ s = 200) (h201 : ¬ s = 201) (h204 : ¬ s = 204) (h207 : ¬ s = 207) (h400 : ¬ s = 400) (h403 : ¬ s = 403) (h404 : ¬ s = 404) (h405 : ¬ s = 405) (h409 : ¬ s = 409) (h412 : ¬ s = 412) (h413 : ¬ s = 413) (h414 : ¬ s = 414) (h415 : ¬ s = 415) (h422 : ¬ s = 422) (h423 : ¬ s = 423) (h424 : ¬ s = 424) (h431 : ¬ s = 431) (h500 : ¬ s = 500) (h501 : ¬ s = 501) (h505 : ¬ s = 505) (h507 : ¬ s = 507) : reason s = [] := by
  unfold reason table
  simp only [List.find?_cons]
  rw [show ((200 : Int) == s) = false by rw [beq_eq_false_iff_ne]; exact fun e => h200 e.symm]
  simp only []
  rw [show ((201 : Int) == s) = false by rw [beq_eq_false_iff_ne]; exact fun e => h201 e.symm]
  simp only []
  rw [show ((204 : Int) == s) = false by rw [beq_eq_false_iff_ne]; exact fun e => h204 e.symm]
  simp only []
  rw [show ((207 : Int) == s) = false by rw [beq_eq_false_iff_ne]; exact fun e => h207 e.symm]
  simp only []
  rw [show ((400 : Int) == s) = false by rw [beq_eq_false_iff_ne]; exact fun e => h400 e.symm]
  simp only []
  rw [show ((403 : Int) == s) = false by rw [beq_eq_false_iff_ne]; exact fun e => h403 e.symm]
  simp only []
  rw [show ((404 : Int) == s) = false by rw [beq_eq_false_iff_ne]; exact fun e => h404 e.symm]
  simp only []
  rw [show ((405 : Int) == s) = false by rw [beq_eq_false_iff_ne]; exact fun e => h405 e.symm]
  simp only []
  rw [show ((409 : Int) == s) = false by rw [beq_eq_false_iff_ne]; exact fun e => h409 e.symm]
  simp only []
  rw [show ((412 : Int) == s) = false by rw [beq_eq_false_iff_ne]; exact fun e => h412 e.symm]
  simp only []
  rw [show ((413 : Int) == s) = false by rw [beq_eq_false_iff_ne]; exact fun e => h413 e.symm]
  simp only []
  rw [show ((414 : Int) == s) = false by rw [beq_eq_false_iff_ne]; exact fun e => h414 e.symm]
  simp only []
  rw [show ((415 : Int) == s) = false by rw [beq_eq_false_iff_ne]; exact fun e => h415 e.symm]
  simp only []
  rw [show ((422 : Int) == s) = false by rw [beq_eq_false_iff_ne]; exact fun e => h422 e.symm]
  simp only []
  rw [show ((423 : Int) == s) = false by rw [beq_eq_false_iff_ne]; exact fun e => h423 e.symm]
  simp only []
  rw [show ((424 : Int) == s) = false by rw [beq_eq_false_iff_ne]; exact fun e => h424 e.symm]
  simp only []
  rw [show ((431 : Int) == s) = false by rw [beq_eq_false_iff_ne]; exact fun e => h431 e.symm]
  simp only []
  rw [show ((500 : Int) == s) = false by rw [beq_eq_false_iff_ne]; exact fun e => h500 e.symm]
  simp only []
  rw [show ((501 : Int) == s) = false by rw [beq_eq_false_iff_ne]; exact fun e => h501 e.symm]
  simp only []
  rw [show ((505 : Int) == s) = false by rw [beq_eq_false_iff_ne]; exact fun e => h505 e.symm]
  simp only []
  rw [show ((507 : Int) == s) = false by rw [beq_eq_false_iff_ne]; exact fun e => h507 e.symm]
  simp only []
  rfl

set_option maxRecDepth 100000 in
set_option maxHeartbeats 4000000 in
theorem reason_any (s : Int) (w : World) : Calls Tryd.prog 23 #[.int .i64 s] w fun e w' => e = .returned (.string (S (reason s))) ∧ w = w' := by
  by_cases h200 : s = 200
  · subst h200
    go_enter Tryd.func23, Tryd.ntmps23
    go_wp2
    go_ret
    exact ⟨rfl, rfl⟩
  by_cases h201 : s = 201
  · subst h201
    clear h200
    go_enter Tryd.func23, Tryd.ntmps23
    go_wp2
    go_ret
    exact ⟨rfl, rfl⟩
  by_cases h204 : s = 204
  · subst h204
    clear h200
    clear h201
    go_enter Tryd.func23, Tryd.ntmps23
    go_wp2
    go_ret
    exact ⟨rfl, rfl⟩
  by_cases h207 : s = 207
  · subst h207
    clear h200
    clear h201
    clear h204
    go_enter Tryd.func23, Tryd.ntmps23
    go_wp2
    go_ret
    exact ⟨rfl, rfl⟩
  by_cases h400 : s = 400
  · subst h400
    clear h200
    clear h201
    clear h204
    clear h207
    go_enter Tryd.func23, Tryd.ntmps23
    go_wp2
    go_ret
    exact ⟨rfl, rfl⟩
  by_cases h403 : s = 403
  · subst h403
    clear h200
    clear h201
    clear h204
    clear h207
    clear h400
    go_enter Tryd.func23, Tryd.ntmps23
    go_wp2
    go_ret
    exact ⟨rfl, rfl⟩
  by_cases h404 : s = 404
  · subst h404
    clear h200
    clear h201
    clear h204
    clear h207
    clear h400
    clear h403
    go_enter Tryd.func23, Tryd.ntmps23
    go_wp2
    go_ret
    exact ⟨rfl, rfl⟩
  by_cases h405 : s = 405
  · subst h405
    clear h200
    clear h201
    clear h204
    clear h207
    clear h400
    clear h403
    clear h404
    go_enter Tryd.func23, Tryd.ntmps23
    go_wp2
    go_ret
    exact ⟨rfl, rfl⟩
  by_cases h409 : s = 409
  · subst h409
    clear h200
    clear h201
    clear h204
    clear h207
    clear h400
    clear h403
    clear h404
    clear h405
    go_enter Tryd.func23, Tryd.ntmps23
    go_wp2
    go_ret
    exact ⟨rfl, rfl⟩
  by_cases h412 : s = 412
  · subst h412
    clear h200
    clear h201
    clear h204
    clear h207
    clear h400
    clear h403
    clear h404
    clear h405
    clear h409
    go_enter Tryd.func23, Tryd.ntmps23
    go_wp2
    go_ret
    exact ⟨rfl, rfl⟩
  by_cases h413 : s = 413
  · subst h413
    clear h200
    clear h201
    clear h204
    clear h207
    clear h400
    clear h403
    clear h404
    clear h405
    clear h409
    clear h412
    go_enter Tryd.func23, Tryd.ntmps23
    go_wp2
    go_ret
    exact ⟨rfl, rfl⟩
  by_cases h414 : s = 414
  · subst h414
    clear h200
    clear h201
    clear h204
    clear h207
    clear h400
    clear h403
    clear h404
    clear h405
    clear h409
    clear h412
    clear h413
    go_enter Tryd.func23, Tryd.ntmps23
    go_wp2
    go_ret
    exact ⟨rfl, rfl⟩
  by_cases h415 : s = 415
  · subst h415
    clear h200
    clear h201
    clear h204
    clear h207
    clear h400
    clear h403
    clear h404
    clear h405
    clear h409
    clear h412
    clear h413
    clear h414
    go_enter Tryd.func23, Tryd.ntmps23
    go_wp2
    go_ret
    exact ⟨rfl, rfl⟩
  by_cases h422 : s = 422
  · subst h422
    clear h200
    clear h201
    clear h204
    clear h207
    clear h400
    clear h403
    clear h404
    clear h405
    clear h409
    clear h412
    clear h413
    clear h414
    clear h415
    go_enter Tryd.func23, Tryd.ntmps23
    go_wp2
    go_ret
    exact ⟨rfl, rfl⟩
  by_cases h423 : s = 423
  · subst h423
    clear h200
    clear h201
    clear h204
    clear h207
    clear h400
    clear h403
    clear h404
    clear h405
    clear h409
    clear h412
    clear h413
    clear h414
    clear h415
    clear h422
    go_enter Tryd.func23, Tryd.ntmps23
    go_wp2
    go_ret
    exact ⟨rfl, rfl⟩
  by_cases h424 : s = 424
  · subst h424
    clear h200
    clear h201
    clear h204
    clear h207
    clear h400
    clear h403
    clear h404
    clear h405
    clear h409
    clear h412
    clear h413
    clear h414
    clear h415
    clear h422
    clear h423
    go_enter Tryd.func23, Tryd.ntmps23
    go_wp2
    go_ret
    exact ⟨rfl, rfl⟩
  by_cases h431 : s = 431
  · subst h431
    clear h200
    clear h201
    clear h204
    clear h207
    clear h400
    clear h403
    clear h404
    clear h405
    clear h409
    clear h412
    clear h413
    clear h414
    clear h415
    clear h422
    clear h423
    clear h424
    go_enter Tryd.func23, Tryd.ntmps23
    go_wp2
    go_ret
    exact ⟨rfl, rfl⟩
  by_cases h500 : s = 500
  · subst h500
    clear h200
    clear h201
    clear h204
    clear h207
    clear h400
    clear h403
    clear h404
    clear h405
    clear h409
    clear h412
    clear h413
    clear h414
    clear h415
    clear h422
    clear h423
    clear h424
    clear h431
    go_enter Tryd.func23, Tryd.ntmps23
    go_wp2
    go_ret
    exact ⟨rfl, rfl⟩
  by_cases h501 : s = 501
  · subst h501
    clear h200
    clear h201
    clear h204
    clear h207
    clear h400
    clear h403
    clear h404
    clear h405
    clear h409
    clear h412
    clear h413
    clear h414
    clear h415
    clear h422
    clear h423
    clear h424
    clear h431
    clear h500
    go_enter Tryd.func23, Tryd.ntmps23
    go_wp2
    go_ret
    exact ⟨rfl, rfl⟩
  by_cases h505 : s = 505
  · subst h505
    clear h200
    clear h201
    clear h204
    clear h207
    clear h400
    clear h403
    clear h404
    clear h405
    clear h409
    clear h412
    clear h413
    clear h414
    clear h415
    clear h422
    clear h423
    clear h424
    clear h431
    clear h500
    clear h501
    go_enter Tryd.func23, Tryd.ntmps23
    go_wp2
    go_ret
    exact ⟨rfl, rfl⟩
  by_cases h507 : s = 507
  · subst h507
    clear h200
    clear h201
    clear h204
    clear h207
    clear h400
    clear h403
    clear h404
    clear h405
    clear h409
    clear h412
    clear h413
    clear h414
    clear h415
    clear h422
    clear h423
    clear h424
    clear h431
    clear h500
    clear h501
    clear h505
    go_enter Tryd.func23, Tryd.ntmps23
    go_wp2
    go_ret
    exact ⟨rfl, rfl⟩
  have N := Lib.hid (reason_no h200 h201 h204 h207 h400 h403 h404 h405 h409 h412 h413 h414 h415 h422 h423 h424 h431 h500 h501 h505 h507)
  have b200 : (s == 200) = false := by rw [beq_eq_false_iff_ne]; exact h200
  have b201 : (s == 201) = false := by rw [beq_eq_false_iff_ne]; exact h201
  have b204 : (s == 204) = false := by rw [beq_eq_false_iff_ne]; exact h204
  have b207 : (s == 207) = false := by rw [beq_eq_false_iff_ne]; exact h207
  have b400 : (s == 400) = false := by rw [beq_eq_false_iff_ne]; exact h400
  have b403 : (s == 403) = false := by rw [beq_eq_false_iff_ne]; exact h403
  have b404 : (s == 404) = false := by rw [beq_eq_false_iff_ne]; exact h404
  have b405 : (s == 405) = false := by rw [beq_eq_false_iff_ne]; exact h405
  have b409 : (s == 409) = false := by rw [beq_eq_false_iff_ne]; exact h409
  have b412 : (s == 412) = false := by rw [beq_eq_false_iff_ne]; exact h412
  have b413 : (s == 413) = false := by rw [beq_eq_false_iff_ne]; exact h413
  have b414 : (s == 414) = false := by rw [beq_eq_false_iff_ne]; exact h414
  have b415 : (s == 415) = false := by rw [beq_eq_false_iff_ne]; exact h415
  have b422 : (s == 422) = false := by rw [beq_eq_false_iff_ne]; exact h422
  have b423 : (s == 423) = false := by rw [beq_eq_false_iff_ne]; exact h423
  have b424 : (s == 424) = false := by rw [beq_eq_false_iff_ne]; exact h424
  have b431 : (s == 431) = false := by rw [beq_eq_false_iff_ne]; exact h431
  have b500 : (s == 500) = false := by rw [beq_eq_false_iff_ne]; exact h500
  have b501 : (s == 501) = false := by rw [beq_eq_false_iff_ne]; exact h501
  have b505 : (s == 505) = false := by rw [beq_eq_false_iff_ne]; exact h505
  have b507 : (s == 507) = false := by rw [beq_eq_false_iff_ne]; exact h507
  clear h200 h201 h204 h207 h400 h403 h404 h405 h409 h412 h413 h414 h415 h422 h423 h424 h431 h500 h501 h505 h507
  go_enter Tryd.func23, Tryd.ntmps23
  go_wp2
  go_ret
  exact ⟨ret_str (by rw [N.out]; rfl), rfl⟩
end Go.Proofs.YtdojchamdcokiaaDoor
