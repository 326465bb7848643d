/-
  xml: beginsName, continuesName, nameLength.
-/
import Derived.Test.YteefjmdallpihaaGreatDoorXr1
namespace Go.Proofs.YteefjmdallpihaaGreatDoor
open Go.RowKit Reply

theorem beq_u8 (c : UInt8) (k : UInt8) : (c == k) = decide (c.toNat = k.toNat) := by
  by_cases h : c = k
  · rw [h]; simp
  · rw [beq_eq_false_iff_ne.2 h, decide_eq_false (fun e => h (UInt8.toNat_inj.1 e))]
set_option maxHeartbeats 4000000 in
theorem begins_any (w : World) (c : UInt8) (x : Nat) (hx : x = c.toNat) :
    Calls Tryz.prog 82 #[.int .u8 (x : Int)] w fun e w' => e = .returned (.bool (Xml.begins c)) ∧ w = w' := by
  have x8 : x < 256 := by rw [hx]; exact c.toNat_lt
  have hM : Xml.begins c = (decide (97 ≤ x ∧ x ≤ 122) || decide (65 ≤ x ∧ x ≤ 90) || decide (x = 95) || decide (128 ≤ x)) := by
    unfold Xml.begins
    rw [hx]
    simp only [beq_u8]
    rfl
  rw [hM]
  clear hM hx
  rcases (show (0 ≤ x ∧ x ≤ 64) ∨ (65 ≤ x ∧ x ≤ 90) ∨ (91 ≤ x ∧ x ≤ 94) ∨ (x = 95) ∨ (x = 96) ∨ (97 ≤ x ∧ x ≤ 122) ∨ (123 ≤ x ∧ x ≤ 127) ∨ (128 ≤ x ∧ x ≤ 255) by omega) with h | h | h | h | h | h | h | h
  · have hv : (decide (97 ≤ x ∧ x ≤ 122) || decide (65 ≤ x ∧ x ≤ 90) || decide (x = 95) || decide (128 ≤ x)) = false := by simp; omega
    rw [hv]
    have f0 : decide ((97 : Int) ≤ (x : Int)) = false := decide_eq_false (by omega)
    have f1 : decide ((x : Int) ≤ 122) = true := decide_eq_true (by omega)
    have f2 : decide ((65 : Int) ≤ (x : Int)) = false := decide_eq_false (by omega)
    have f3 : decide ((x : Int) ≤ 90) = true := decide_eq_true (by omega)
    have f4 : ((x : Int) == 95) = false := by rw [beq_eq_false_iff_ne]; omega
    have f5 : decide ((128 : Int) ≤ (x : Int)) = false := decide_eq_false (by omega)
    clear hv
    go_enter Tryz.func82, Tryz.ntmps82
    go_wp2
    go_ret
    exact ⟨rfl, rfl⟩
  · have hv : (decide (97 ≤ x ∧ x ≤ 122) || decide (65 ≤ x ∧ x ≤ 90) || decide (x = 95) || decide (128 ≤ x)) = true := by simp; omega
    rw [hv]
    have f0 : decide ((97 : Int) ≤ (x : Int)) = false := decide_eq_false (by omega)
    have f1 : decide ((x : Int) ≤ 122) = true := decide_eq_true (by omega)
    have f2 : decide ((65 : Int) ≤ (x : Int)) = true := decide_eq_true (by omega)
    have f3 : decide ((x : Int) ≤ 90) = true := decide_eq_true (by omega)
    have f4 : ((x : Int) == 95) = false := by rw [beq_eq_false_iff_ne]; omega
    have f5 : decide ((128 : Int) ≤ (x : Int)) = false := decide_eq_false (by omega)
    clear hv
    go_enter Tryz.func82, Tryz.ntmps82
    go_wp2
    go_ret
    exact ⟨rfl, rfl⟩
  · have hv : (decide (97 ≤ x ∧ x ≤ 122) || decide (65 ≤ x ∧ x ≤ 90) || decide (x = 95) || decide (128 ≤ x)) = false := by simp; omega
    rw [hv]
    have f0 : decide ((97 : Int) ≤ (x : Int)) = false := decide_eq_false (by omega)
    have f1 : decide ((x : Int) ≤ 122) = true := decide_eq_true (by omega)
    have f2 : decide ((65 : Int) ≤ (x : Int)) = true := decide_eq_true (by omega)
    have f3 : decide ((x : Int) ≤ 90) = false := decide_eq_false (by omega)
    have f4 : ((x : Int) == 95) = false := by rw [beq_eq_false_iff_ne]; omega
    have f5 : decide ((128 : Int) ≤ (x : Int)) = false := decide_eq_false (by omega)
    clear hv
    go_enter Tryz.func82, Tryz.ntmps82
    go_wp2
    go_ret
    exact ⟨rfl, rfl⟩
  · have hv : (decide (97 ≤ x ∧ x ≤ 122) || decide (65 ≤ x ∧ x ≤ 90) || decide (x = 95) || decide (128 ≤ x)) = true := by simp; omega
    rw [hv]
    have f0 : decide ((97 : Int) ≤ (x : Int)) = false := decide_eq_false (by omega)
    have f1 : decide ((x : Int) ≤ 122) = true := decide_eq_true (by omega)
    have f2 : decide ((65 : Int) ≤ (x : Int)) = true := decide_eq_true (by omega)
    have f3 : decide ((x : Int) ≤ 90) = false := decide_eq_false (by omega)
    have f4 : ((x : Int) == 95) = true := by rw [beq_iff_eq]; omega
    have f5 : decide ((128 : Int) ≤ (x : Int)) = false := decide_eq_false (by omega)
    clear hv
    go_enter Tryz.func82, Tryz.ntmps82
    go_wp2
    go_ret
    exact ⟨rfl, rfl⟩
  · have hv : (decide (97 ≤ x ∧ x ≤ 122) || decide (65 ≤ x ∧ x ≤ 90) || decide (x = 95) || decide (128 ≤ x)) = false := by simp; omega
    rw [hv]
    have f0 : decide ((97 : Int) ≤ (x : Int)) = false := decide_eq_false (by omega)
    have f1 : decide ((x : Int) ≤ 122) = true := decide_eq_true (by omega)
    have f2 : decide ((65 : Int) ≤ (x : Int)) = true := decide_eq_true (by omega)
    have f3 : decide ((x : Int) ≤ 90) = false := decide_eq_false (by omega)
    have f4 : ((x : Int) == 95) = false := by rw [beq_eq_false_iff_ne]; omega
    have f5 : decide ((128 : Int) ≤ (x : Int)) = false := decide_eq_false (by omega)
    clear hv
    go_enter Tryz.func82, Tryz.ntmps82
    go_wp2
    go_ret
    exact ⟨rfl, rfl⟩
  · have hv : (decide (97 ≤ x ∧ x ≤ 122) || decide (65 ≤ x ∧ x ≤ 90) || decide (x = 95) || decide (128 ≤ x)) = true := by simp; omega
    rw [hv]
    have f0 : decide ((97 : Int) ≤ (x : Int)) = true := decide_eq_true (by omega)
    have f1 : decide ((x : Int) ≤ 122) = true := decide_eq_true (by omega)
    have f2 : decide ((65 : Int) ≤ (x : Int)) = true := decide_eq_true (by omega)
    have f3 : decide ((x : Int) ≤ 90) = false := decide_eq_false (by omega)
    have f4 : ((x : Int) == 95) = false := by rw [beq_eq_false_iff_ne]; omega
    have f5 : decide ((128 : Int) ≤ (x : Int)) = false := decide_eq_false (by omega)
    clear hv
    go_enter Tryz.func82, Tryz.ntmps82
    go_wp2
    go_ret
    exact ⟨rfl, rfl⟩
  · have hv : (decide (97 ≤ x ∧ x ≤ 122) || decide (65 ≤ x ∧ x ≤ 90) || decide (x = 95) || decide (128 ≤ x)) = false := by simp; omega
    rw [hv]
    have f0 : decide ((97 : Int) ≤ (x : Int)) = true := decide_eq_true (by omega)
    have f1 : decide ((x : Int) ≤ 122) = false := decide_eq_false (by omega)
    have f2 : decide ((65 : Int) ≤ (x : Int)) = true := decide_eq_true (by omega)
    have f3 : decide ((x : Int) ≤ 90) = false := decide_eq_false (by omega)
    have f4 : ((x : Int) == 95) = false := by rw [beq_eq_false_iff_ne]; omega
    have f5 : decide ((128 : Int) ≤ (x : Int)) = false := decide_eq_false (by omega)
    clear hv
    go_enter Tryz.func82, Tryz.ntmps82
    go_wp2
    go_ret
    exact ⟨rfl, rfl⟩
  · have hv : (decide (97 ≤ x ∧ x ≤ 122) || decide (65 ≤ x ∧ x ≤ 90) || decide (x = 95) || decide (128 ≤ x)) = true := by simp; omega
    rw [hv]
    have f0 : decide ((97 : Int) ≤ (x : Int)) = true := decide_eq_true (by omega)
    have f1 : decide ((x : Int) ≤ 122) = false := decide_eq_false (by omega)
    have f2 : decide ((65 : Int) ≤ (x : Int)) = true := decide_eq_true (by omega)
    have f3 : decide ((x : Int) ≤ 90) = false := decide_eq_false (by omega)
    have f4 : ((x : Int) == 95) = false := by rw [beq_eq_false_iff_ne]; omega
    have f5 : decide ((128 : Int) ≤ (x : Int)) = true := decide_eq_true (by omega)
    clear hv
    go_enter Tryz.func82, Tryz.ntmps82
    go_wp2
    go_ret
    exact ⟨rfl, rfl⟩
set_option maxHeartbeats 4000000 in
theorem goesOn_any (w : World) (c : UInt8) (x : Nat) (hx : x = c.toNat) :
    Calls Tryz.prog 83 #[.int .u8 (x : Int)] w fun e w' => e = .returned (.bool (Xml.goesOn c)) ∧ w = w' := by
  have x8 : x < 256 := by rw [hx]; exact c.toNat_lt
  have hM : Xml.goesOn c = (decide (48 ≤ x ∧ x ≤ 57) || decide (x = 45) || decide (x = 46)) := by
    unfold Xml.goesOn
    rw [hx]
    simp only [beq_u8]
    rfl
  rw [hM]
  clear hM hx
  rcases (show (0 ≤ x ∧ x ≤ 44) ∨ (x = 45) ∨ (x = 46) ∨ (x = 47) ∨ (48 ≤ x ∧ x ≤ 57) ∨ (58 ≤ x ∧ x ≤ 255) by omega) with h | h | h | h | h | h
  · have hv : (decide (48 ≤ x ∧ x ≤ 57) || decide (x = 45) || decide (x = 46)) = false := by simp; omega
    rw [hv]
    have f0 : decide ((48 : Int) ≤ (x : Int)) = false := decide_eq_false (by omega)
    have f1 : decide ((x : Int) ≤ 57) = true := decide_eq_true (by omega)
    have f2 : ((x : Int) == 45) = false := by rw [beq_eq_false_iff_ne]; omega
    have f3 : ((x : Int) == 46) = false := by rw [beq_eq_false_iff_ne]; omega
    clear hv
    go_enter Tryz.func83, Tryz.ntmps83
    go_wp2
    go_ret
    exact ⟨rfl, rfl⟩
  · have hv : (decide (48 ≤ x ∧ x ≤ 57) || decide (x = 45) || decide (x = 46)) = true := by simp; omega
    rw [hv]
    have f0 : decide ((48 : Int) ≤ (x : Int)) = false := decide_eq_false (by omega)
    have f1 : decide ((x : Int) ≤ 57) = true := decide_eq_true (by omega)
    have f2 : ((x : Int) == 45) = true := by rw [beq_iff_eq]; omega
    have f3 : ((x : Int) == 46) = false := by rw [beq_eq_false_iff_ne]; omega
    clear hv
    go_enter Tryz.func83, Tryz.ntmps83
    go_wp2
    go_ret
    exact ⟨rfl, rfl⟩
  · have hv : (decide (48 ≤ x ∧ x ≤ 57) || decide (x = 45) || decide (x = 46)) = true := by simp; omega
    rw [hv]
    have f0 : decide ((48 : Int) ≤ (x : Int)) = false := decide_eq_false (by omega)
    have f1 : decide ((x : Int) ≤ 57) = true := decide_eq_true (by omega)
    have f2 : ((x : Int) == 45) = false := by rw [beq_eq_false_iff_ne]; omega
    have f3 : ((x : Int) == 46) = true := by rw [beq_iff_eq]; omega
    clear hv
    go_enter Tryz.func83, Tryz.ntmps83
    go_wp2
    go_ret
    exact ⟨rfl, rfl⟩
  · have hv : (decide (48 ≤ x ∧ x ≤ 57) || decide (x = 45) || decide (x = 46)) = false := by simp; omega
    rw [hv]
    have f0 : decide ((48 : Int) ≤ (x : Int)) = false := decide_eq_false (by omega)
    have f1 : decide ((x : Int) ≤ 57) = true := decide_eq_true (by omega)
    have f2 : ((x : Int) == 45) = false := by rw [beq_eq_false_iff_ne]; omega
    have f3 : ((x : Int) == 46) = false := by rw [beq_eq_false_iff_ne]; omega
    clear hv
    go_enter Tryz.func83, Tryz.ntmps83
    go_wp2
    go_ret
    exact ⟨rfl, rfl⟩
  · have hv : (decide (48 ≤ x ∧ x ≤ 57) || decide (x = 45) || decide (x = 46)) = true := by simp; omega
    rw [hv]
    have f0 : decide ((48 : Int) ≤ (x : Int)) = true := decide_eq_true (by omega)
    have f1 : decide ((x : Int) ≤ 57) = true := decide_eq_true (by omega)
    have f2 : ((x : Int) == 45) = false := by rw [beq_eq_false_iff_ne]; omega
    have f3 : ((x : Int) == 46) = false := by rw [beq_eq_false_iff_ne]; omega
    clear hv
    go_enter Tryz.func83, Tryz.ntmps83
    go_wp2
    go_ret
    exact ⟨rfl, rfl⟩
  · have hv : (decide (48 ≤ x ∧ x ≤ 57) || decide (x = 45) || decide (x = 46)) = false := by simp; omega
    rw [hv]
    have f0 : decide ((48 : Int) ≤ (x : Int)) = true := decide_eq_true (by omega)
    have f1 : decide ((x : Int) ≤ 57) = false := decide_eq_false (by omega)
    have f2 : ((x : Int) == 45) = false := by rw [beq_eq_false_iff_ne]; omega
    have f3 : ((x : Int) == 46) = false := by rw [beq_eq_false_iff_ne]; omega
    clear hv
    go_enter Tryz.func83, Tryz.ntmps83
    go_wp2
    go_ret
    exact ⟨rfl, rfl⟩
end Go.Proofs.YteefjmdallpihaaGreatDoor
