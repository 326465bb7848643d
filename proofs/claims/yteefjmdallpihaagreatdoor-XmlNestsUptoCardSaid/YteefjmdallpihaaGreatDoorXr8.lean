/-
  xml: isLetter, unify, flatten.
-/
import Derived.Test.YteefjmdallpihaaGreatDoorXr7
import Derived.Shelf.Strings.Replace
import Derived.Lib.ReplaceLaws
namespace Go.Proofs.YteefjmdallpihaaGreatDoor
open Go.RowKit Reply Go.Shelf

set_option maxHeartbeats 8000000 in
theorem letter_any (w : World) (x : Nat) (hx : x ≤ 1114111) :
    Calls Tryz.prog 34 #[.int .i32 (x : Int)] w fun e w' => e = .returned (.bool (Xml.letter x)) ∧ w = w' := by
  have hM : Xml.letter x = (decide (x = 9) || decide (x = 10) || decide (x = 13) || decide (32 ≤ x ∧ x ≤ 55295) || decide (57344 ≤ x ∧ x ≤ 65533) || decide (65536 ≤ x ∧ x ≤ 1114111)) := rfl
  rw [hM]
  clear hM
  rcases (show (0 ≤ x ∧ x ≤ 8) ∨ (x = 9) ∨ (x = 10) ∨ (11 ≤ x ∧ x ≤ 12) ∨ (x = 13) ∨ (14 ≤ x ∧ x ≤ 31) ∨ (32 ≤ x ∧ x ≤ 55295) ∨ (55296 ≤ x ∧ x ≤ 57343) ∨ (57344 ≤ x ∧ x ≤ 65533) ∨ (65534 ≤ x ∧ x ≤ 65535) ∨ (65536 ≤ x ∧ x ≤ 1114111) by omega) with h | h | h | h | h | h | h | h | h | h | h
  · have hv : (decide (x = 9) || decide (x = 10) || decide (x = 13) || decide (32 ≤ x ∧ x ≤ 55295) || decide (57344 ≤ x ∧ x ≤ 65533) || decide (65536 ≤ x ∧ x ≤ 1114111)) = false := by simp; omega
    rw [hv]
    have f0 : ((x : Int) == 9) = false := by rw [beq_eq_false_iff_ne]; omega
    have f1 : ((x : Int) == 10) = false := by rw [beq_eq_false_iff_ne]; omega
    have f2 : ((x : Int) == 13) = false := by rw [beq_eq_false_iff_ne]; omega
    have f3 : decide ((32 : Int) ≤ (x : Int)) = false := decide_eq_false (by omega)
    have f4 : decide ((x : Int) ≤ 55295) = true := decide_eq_true (by omega)
    have f5 : decide ((57344 : Int) ≤ (x : Int)) = false := decide_eq_false (by omega)
    have f6 : decide ((x : Int) ≤ 65533) = true := decide_eq_true (by omega)
    have f7 : decide ((65536 : Int) ≤ (x : Int)) = false := decide_eq_false (by omega)
    have f8 : decide ((x : Int) ≤ 1114111) = true := decide_eq_true (by omega)
    clear hv
    go_enter Tryz.func34, Tryz.ntmps34
    go_wp2
    go_ret
    exact ⟨rfl, rfl⟩
  · have hv : (decide (x = 9) || decide (x = 10) || decide (x = 13) || decide (32 ≤ x ∧ x ≤ 55295) || decide (57344 ≤ x ∧ x ≤ 65533) || decide (65536 ≤ x ∧ x ≤ 1114111)) = true := by simp; omega
    rw [hv]
    have f0 : ((x : Int) == 9) = true := by rw [beq_iff_eq]; omega
    have f1 : ((x : Int) == 10) = false := by rw [beq_eq_false_iff_ne]; omega
    have f2 : ((x : Int) == 13) = false := by rw [beq_eq_false_iff_ne]; omega
    have f3 : decide ((32 : Int) ≤ (x : Int)) = false := decide_eq_false (by omega)
    have f4 : decide ((x : Int) ≤ 55295) = true := decide_eq_true (by omega)
    have f5 : decide ((57344 : Int) ≤ (x : Int)) = false := decide_eq_false (by omega)
    have f6 : decide ((x : Int) ≤ 65533) = true := decide_eq_true (by omega)
    have f7 : decide ((65536 : Int) ≤ (x : Int)) = false := decide_eq_false (by omega)
    have f8 : decide ((x : Int) ≤ 1114111) = true := decide_eq_true (by omega)
    clear hv
    go_enter Tryz.func34, Tryz.ntmps34
    go_wp2
    go_ret
    exact ⟨rfl, rfl⟩
  · have hv : (decide (x = 9) || decide (x = 10) || decide (x = 13) || decide (32 ≤ x ∧ x ≤ 55295) || decide (57344 ≤ x ∧ x ≤ 65533) || decide (65536 ≤ x ∧ x ≤ 1114111)) = true := by simp; omega
    rw [hv]
    have f0 : ((x : Int) == 9) = false := by rw [beq_eq_false_iff_ne]; omega
    have f1 : ((x : Int) == 10) = true := by rw [beq_iff_eq]; omega
    have f2 : ((x : Int) == 13) = false := by rw [beq_eq_false_iff_ne]; omega
    have f3 : decide ((32 : Int) ≤ (x : Int)) = false := decide_eq_false (by omega)
    have f4 : decide ((x : Int) ≤ 55295) = true := decide_eq_true (by omega)
    have f5 : decide ((57344 : Int) ≤ (x : Int)) = false := decide_eq_false (by omega)
    have f6 : decide ((x : Int) ≤ 65533) = true := decide_eq_true (by omega)
    have f7 : decide ((65536 : Int) ≤ (x : Int)) = false := decide_eq_false (by omega)
    have f8 : decide ((x : Int) ≤ 1114111) = true := decide_eq_true (by omega)
    clear hv
    go_enter Tryz.func34, Tryz.ntmps34
    go_wp2
    go_ret
    exact ⟨rfl, rfl⟩
  · have hv : (decide (x = 9) || decide (x = 10) || decide (x = 13) || decide (32 ≤ x ∧ x ≤ 55295) || decide (57344 ≤ x ∧ x ≤ 65533) || decide (65536 ≤ x ∧ x ≤ 1114111)) = false := by simp; omega
    rw [hv]
    have f0 : ((x : Int) == 9) = false := by rw [beq_eq_false_iff_ne]; omega
    have f1 : ((x : Int) == 10) = false := by rw [beq_eq_false_iff_ne]; omega
    have f2 : ((x : Int) == 13) = false := by rw [beq_eq_false_iff_ne]; omega
    have f3 : decide ((32 : Int) ≤ (x : Int)) = false := decide_eq_false (by omega)
    have f4 : decide ((x : Int) ≤ 55295) = true := decide_eq_true (by omega)
    have f5 : decide ((57344 : Int) ≤ (x : Int)) = false := decide_eq_false (by omega)
    have f6 : decide ((x : Int) ≤ 65533) = true := decide_eq_true (by omega)
    have f7 : decide ((65536 : Int) ≤ (x : Int)) = false := decide_eq_false (by omega)
    have f8 : decide ((x : Int) ≤ 1114111) = true := decide_eq_true (by omega)
    clear hv
    go_enter Tryz.func34, Tryz.ntmps34
    go_wp2
    go_ret
    exact ⟨rfl, rfl⟩
  · have hv : (decide (x = 9) || decide (x = 10) || decide (x = 13) || decide (32 ≤ x ∧ x ≤ 55295) || decide (57344 ≤ x ∧ x ≤ 65533) || decide (65536 ≤ x ∧ x ≤ 1114111)) = true := by simp; omega
    rw [hv]
    have f0 : ((x : Int) == 9) = false := by rw [beq_eq_false_iff_ne]; omega
    have f1 : ((x : Int) == 10) = false := by rw [beq_eq_false_iff_ne]; omega
    have f2 : ((x : Int) == 13) = true := by rw [beq_iff_eq]; omega
    have f3 : decide ((32 : Int) ≤ (x : Int)) = false := decide_eq_false (by omega)
    have f4 : decide ((x : Int) ≤ 55295) = true := decide_eq_true (by omega)
    have f5 : decide ((57344 : Int) ≤ (x : Int)) = false := decide_eq_false (by omega)
    have f6 : decide ((x : Int) ≤ 65533) = true := decide_eq_true (by omega)
    have f7 : decide ((65536 : Int) ≤ (x : Int)) = false := decide_eq_false (by omega)
    have f8 : decide ((x : Int) ≤ 1114111) = true := decide_eq_true (by omega)
    clear hv
    go_enter Tryz.func34, Tryz.ntmps34
    go_wp2
    go_ret
    exact ⟨rfl, rfl⟩
  · have hv : (decide (x = 9) || decide (x = 10) || decide (x = 13) || decide (32 ≤ x ∧ x ≤ 55295) || decide (57344 ≤ x ∧ x ≤ 65533) || decide (65536 ≤ x ∧ x ≤ 1114111)) = false := by simp; omega
    rw [hv]
    have f0 : ((x : Int) == 9) = false := by rw [beq_eq_false_iff_ne]; omega
    have f1 : ((x : Int) == 10) = false := by rw [beq_eq_false_iff_ne]; omega
    have f2 : ((x : Int) == 13) = false := by rw [beq_eq_false_iff_ne]; omega
    have f3 : decide ((32 : Int) ≤ (x : Int)) = false := decide_eq_false (by omega)
    have f4 : decide ((x : Int) ≤ 55295) = true := decide_eq_true (by omega)
    have f5 : decide ((57344 : Int) ≤ (x : Int)) = false := decide_eq_false (by omega)
    have f6 : decide ((x : Int) ≤ 65533) = true := decide_eq_true (by omega)
    have f7 : decide ((65536 : Int) ≤ (x : Int)) = false := decide_eq_false (by omega)
    have f8 : decide ((x : Int) ≤ 1114111) = true := decide_eq_true (by omega)
    clear hv
    go_enter Tryz.func34, Tryz.ntmps34
    go_wp2
    go_ret
    exact ⟨rfl, rfl⟩
  · have hv : (decide (x = 9) || decide (x = 10) || decide (x = 13) || decide (32 ≤ x ∧ x ≤ 55295) || decide (57344 ≤ x ∧ x ≤ 65533) || decide (65536 ≤ x ∧ x ≤ 1114111)) = true := by simp; omega
    rw [hv]
    have f0 : ((x : Int) == 9) = false := by rw [beq_eq_false_iff_ne]; omega
    have f1 : ((x : Int) == 10) = false := by rw [beq_eq_false_iff_ne]; omega
    have f2 : ((x : Int) == 13) = false := by rw [beq_eq_false_iff_ne]; omega
    have f3 : decide ((32 : Int) ≤ (x : Int)) = true := decide_eq_true (by omega)
    have f4 : decide ((x : Int) ≤ 55295) = true := decide_eq_true (by omega)
    have f5 : decide ((57344 : Int) ≤ (x : Int)) = false := decide_eq_false (by omega)
    have f6 : decide ((x : Int) ≤ 65533) = true := decide_eq_true (by omega)
    have f7 : decide ((65536 : Int) ≤ (x : Int)) = false := decide_eq_false (by omega)
    have f8 : decide ((x : Int) ≤ 1114111) = true := decide_eq_true (by omega)
    clear hv
    go_enter Tryz.func34, Tryz.ntmps34
    go_wp2
    go_ret
    exact ⟨rfl, rfl⟩
  · have hv : (decide (x = 9) || decide (x = 10) || decide (x = 13) || decide (32 ≤ x ∧ x ≤ 55295) || decide (57344 ≤ x ∧ x ≤ 65533) || decide (65536 ≤ x ∧ x ≤ 1114111)) = false := by simp; omega
    rw [hv]
    have f0 : ((x : Int) == 9) = false := by rw [beq_eq_false_iff_ne]; omega
    have f1 : ((x : Int) == 10) = false := by rw [beq_eq_false_iff_ne]; omega
    have f2 : ((x : Int) == 13) = false := by rw [beq_eq_false_iff_ne]; omega
    have f3 : decide ((32 : Int) ≤ (x : Int)) = true := decide_eq_true (by omega)
    have f4 : decide ((x : Int) ≤ 55295) = false := decide_eq_false (by omega)
    have f5 : decide ((57344 : Int) ≤ (x : Int)) = false := decide_eq_false (by omega)
    have f6 : decide ((x : Int) ≤ 65533) = true := decide_eq_true (by omega)
    have f7 : decide ((65536 : Int) ≤ (x : Int)) = false := decide_eq_false (by omega)
    have f8 : decide ((x : Int) ≤ 1114111) = true := decide_eq_true (by omega)
    clear hv
    go_enter Tryz.func34, Tryz.ntmps34
    go_wp2
    go_ret
    exact ⟨rfl, rfl⟩
  · have hv : (decide (x = 9) || decide (x = 10) || decide (x = 13) || decide (32 ≤ x ∧ x ≤ 55295) || decide (57344 ≤ x ∧ x ≤ 65533) || decide (65536 ≤ x ∧ x ≤ 1114111)) = true := by simp; omega
    rw [hv]
    have f0 : ((x : Int) == 9) = false := by rw [beq_eq_false_iff_ne]; omega
    have f1 : ((x : Int) == 10) = false := by rw [beq_eq_false_iff_ne]; omega
    have f2 : ((x : Int) == 13) = false := by rw [beq_eq_false_iff_ne]; omega
    have f3 : decide ((32 : Int) ≤ (x : Int)) = true := decide_eq_true (by omega)
    have f4 : decide ((x : Int) ≤ 55295) = false := decide_eq_false (by omega)
    have f5 : decide ((57344 : Int) ≤ (x : Int)) = true := decide_eq_true (by omega)
    have f6 : decide ((x : Int) ≤ 65533) = true := decide_eq_true (by omega)
    have f7 : decide ((65536 : Int) ≤ (x : Int)) = false := decide_eq_false (by omega)
    have f8 : decide ((x : Int) ≤ 1114111) = true := decide_eq_true (by omega)
    clear hv
    go_enter Tryz.func34, Tryz.ntmps34
    go_wp2
    go_ret
    exact ⟨rfl, rfl⟩
  · have hv : (decide (x = 9) || decide (x = 10) || decide (x = 13) || decide (32 ≤ x ∧ x ≤ 55295) || decide (57344 ≤ x ∧ x ≤ 65533) || decide (65536 ≤ x ∧ x ≤ 1114111)) = false := by simp; omega
    rw [hv]
    have f0 : ((x : Int) == 9) = false := by rw [beq_eq_false_iff_ne]; omega
    have f1 : ((x : Int) == 10) = false := by rw [beq_eq_false_iff_ne]; omega
    have f2 : ((x : Int) == 13) = false := by rw [beq_eq_false_iff_ne]; omega
    have f3 : decide ((32 : Int) ≤ (x : Int)) = true := decide_eq_true (by omega)
    have f4 : decide ((x : Int) ≤ 55295) = false := decide_eq_false (by omega)
    have f5 : decide ((57344 : Int) ≤ (x : Int)) = true := decide_eq_true (by omega)
    have f6 : decide ((x : Int) ≤ 65533) = false := decide_eq_false (by omega)
    have f7 : decide ((65536 : Int) ≤ (x : Int)) = false := decide_eq_false (by omega)
    have f8 : decide ((x : Int) ≤ 1114111) = true := decide_eq_true (by omega)
    clear hv
    go_enter Tryz.func34, Tryz.ntmps34
    go_wp2
    go_ret
    exact ⟨rfl, rfl⟩
  · have hv : (decide (x = 9) || decide (x = 10) || decide (x = 13) || decide (32 ≤ x ∧ x ≤ 55295) || decide (57344 ≤ x ∧ x ≤ 65533) || decide (65536 ≤ x ∧ x ≤ 1114111)) = true := by simp; omega
    rw [hv]
    have f0 : ((x : Int) == 9) = false := by rw [beq_eq_false_iff_ne]; omega
    have f1 : ((x : Int) == 10) = false := by rw [beq_eq_false_iff_ne]; omega
    have f2 : ((x : Int) == 13) = false := by rw [beq_eq_false_iff_ne]; omega
    have f3 : decide ((32 : Int) ≤ (x : Int)) = true := decide_eq_true (by omega)
    have f4 : decide ((x : Int) ≤ 55295) = false := decide_eq_false (by omega)
    have f5 : decide ((57344 : Int) ≤ (x : Int)) = true := decide_eq_true (by omega)
    have f6 : decide ((x : Int) ≤ 65533) = false := decide_eq_false (by omega)
    have f7 : decide ((65536 : Int) ≤ (x : Int)) = true := decide_eq_true (by omega)
    have f8 : decide ((x : Int) ≤ 1114111) = true := decide_eq_true (by omega)
    clear hv
    go_enter Tryz.func34, Tryz.ntmps34
    go_wp2
    go_ret
    exact ⟨rfl, rfl⟩
theorem replX_any (w : World) (E : EnvX w) (l o n : Reply.B) (hl : l.length ≤ 65536) (ho : 1 ≤ o.length) (hn : n.length ≤ 1) :
    Calls Tryz.prog 102 #[.string (S l), .string (S o), .string (S n)] w fun e w' => e = .returned (.string (S (Lib.replaceAll l o n))) ∧ Below w.heap.size w w' := by
  obtain ⟨m, hm⟩ := E.mx
  have hc := Lib.countB_le (S o) (by rw [S_size]; exact ho) l.length (S l) (by rw [S_size]; exact Nat.le_refl _)
  rw [S_size] at hc
  have hb : Lib.countB (S l) (S o) * (S n).size ≤ 65536 := by
    rw [S_size]
    have := Nat.mul_le_mul hc hn
    omega
  refine (Any.strings_ReplaceAll Tryz.laysReplaceAll Tryz.Builder_Extra_155 (S l) (S o) (S n) m w (by rw [S_size]; omega) hm (by rw [S_size]; exact ho) (by rw [S_size]; omega)).mono ?_
  rintro e w' ⟨rfl, hb⟩
  exact ⟨rfl, hb⟩
theorem replaceK_le (o n : Reply.B) (h : n.length ≤ o.length) : ∀ (k : Nat) (l : Reply.B), (Lib.replaceK o n k l).length ≤ l.length
  | 0, l => Nat.le_refl _
  | k + 1, l => by
    unfold Lib.replaceK
    split
    · exact Nat.le_refl _
    · rename_i hi
      have ih := replaceK_le o n h k (l.drop ((Lib.index l o).toNat + o.length))
      have hx : (Lib.index l o).toNat + o.length ≤ l.length := by
        rcases Lib.index_spec l o with ⟨h1, _⟩ | ⟨i, h1, h2, h3, _⟩
        · exact absurd (by rw [h1]; rfl) hi
        · have := (List.isPrefixOf_iff_prefix.1 h3).length_le
          rw [List.length_drop] at this
          omega
      rw [List.length_append, List.length_append, List.length_take]
      rw [List.length_drop] at ih
      omega
theorem replaceAll_le {o n : Reply.B} (h : n.length ≤ o.length) (l : Reply.B) : (Lib.replaceAll l o n).length ≤ l.length := by
  unfold Lib.replaceAll Lib.replace
  split
  · exact Nat.le_refl _
  · exact replaceK_le o n h _ l
theorem unify_le (l : Reply.B) : (Xml.unify l).length ≤ l.length := Nat.le_trans (replaceAll_le (by decide) _) (replaceAll_le (by decide) l)
theorem flatten_le (l : Reply.B) : (Xml.flatten l).length ≤ l.length := Nat.le_trans (replaceAll_le (by decide) _) (replaceAll_le (by decide) l)
set_option maxRecDepth 100000 in
set_option maxHeartbeats 4000000 in
theorem unifyX_any (w : World) (E : EnvX w) (l : Reply.B) (hl : l.length ≤ 65536) :
    Calls Tryz.prog 88 #[.string (S l)] w fun e w' => e = .returned (.string (S (Xml.unify l))) ∧ Below w.heap.size w w' := by
  have HE := Lib.hid E
  have R1 := Lib.hid (replX_any w E l [13, 10] [10] hl (by decide) (by decide))
  have R2 := Lib.hid (fun u (K : EnvX u) => replX_any u K (Lib.replaceAll l [13, 10] [10]) [13] [10] (Nat.le_trans (replaceAll_le (by decide) l) hl) (by decide) (by decide))
  have T : Hid (Xml.unify l = Lib.replaceAll (Lib.replaceAll l [13, 10] [10]) [13] [10]) := rfl
  rw [T.out]
  clear E T hl
  go_enter Tryz.func88, Tryz.ntmps88
  go_wp2_with fail
  refine R1.out.mono ?_
  rintro e w1 ⟨rfl, hb⟩
  have B1 := Lib.hid hb
  clear hb R1
  go_wp2_with fail
  refine (R2.out _ (HE.out.below B1.out)).mono ?_
  rintro e w2 ⟨rfl, hb⟩
  have B2 := Lib.hid (B1.out.trans (hb.mono B1.out.size))
  clear hb R2
  go_wp2_with fail
  go_ret
  exact ⟨rfl, B2.out⟩
set_option maxRecDepth 100000 in
set_option maxHeartbeats 4000000 in
theorem flattenX_any (w : World) (E : EnvX w) (l : Reply.B) (hl : l.length ≤ 65536) :
    Calls Tryz.prog 87 #[.string (S l)] w fun e w' => e = .returned (.string (S (Xml.flatten l))) ∧ Below w.heap.size w w' := by
  have HE := Lib.hid E
  have R1 := Lib.hid (replX_any w E l [10] [32] hl (by decide) (by decide))
  have R2 := Lib.hid (fun u (K : EnvX u) => replX_any u K (Lib.replaceAll l [10] [32]) [9] [32] (Nat.le_trans (replaceAll_le (by decide) l) hl) (by decide) (by decide))
  have T : Hid (Xml.flatten l = Lib.replaceAll (Lib.replaceAll l [10] [32]) [9] [32]) := rfl
  rw [T.out]
  clear E T hl
  go_enter Tryz.func87, Tryz.ntmps87
  go_wp2_with fail
  refine R1.out.mono ?_
  rintro e w1 ⟨rfl, hb⟩
  have B1 := Lib.hid hb
  clear hb R1
  go_wp2_with fail
  refine (R2.out _ (HE.out.below B1.out)).mono ?_
  rintro e w2 ⟨rfl, hb⟩
  have B2 := Lib.hid (B1.out.trans (hb.mono B1.out.size))
  clear hb R2
  go_wp2_with fail
  go_ret
  exact ⟨rfl, B2.out⟩
end Go.Proofs.YteefjmdallpihaaGreatDoor
