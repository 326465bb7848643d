/-
  wire: a piece off the front of a row of bytes.
-/
import Derived.Test.YtnodhbgkoedalaaGreatDoorQP1
namespace Go.Proofs.YtnodhbgkoedalaaGreatDoor
open Go.RowKit Reply

set_option maxRecDepth 100000 in
set_option maxHeartbeats 4000000 in
theorem cut_b_nil (w : World) :
    Calls Tryz.prog 22 #[.slice none 0 0, .int .i64 (-1)] w fun e w' => e = .returned (.tuple #[.string ⟨#[]⟩, .bool false]) ∧ w = w' := by
  have LS : Hid (Calls Tryz.prog 31 #[.slice none 0 0] w fun e w' => e = .returned (.int .i64 1026) ∧ w = w') := linesize_b_any w none 0 [] (fun h => by simp at h)
  go_enter Tryz.func22, Tryz.ntmps22
  go_wp2_with fail
  refine LS.out.mono ?_
  rintro e w' ⟨rfl, rfl⟩
  clear LS
  go_wp2_with fail
  go_ret2
  exact ⟨rfl, rfl⟩
set_option maxRecDepth 100000 in
set_option maxHeartbeats 4000000 in
theorem cut_b_any (w : World) (g off cp : Nat) (l : Reply.B) (hb : Bk w g off l) (hcp : l.length ≤ cp) (k : Option Nat) (hk : ∀ n, k = some n → n ≤ 4294967296) :
    Calls Tryz.prog 22 #[.slice (some ⟨g, off, none⟩) l.length cp, .int .i64 (szI k)] w fun e w' => e = .returned (.tuple #[.string (if Wire.size l k ≤ l.length then S (l.take (Wire.size l k)) else S []), .bool (decide (Wire.size l k ≤ l.length))]) ∧ Below w.heap.size w w' := by
  have LS := Lib.hid (linesize_b_any w (some ⟨g, off, none⟩) cp l (fun _ => ⟨g, off, rfl, hb⟩))
  obtain ⟨n, hn⟩ : ∃ n, n = Wire.size l k := ⟨_, rfl⟩
  rw [← hn]
  have n2 : n ≤ 4294967296 := by
    rw [hn]
    rcases k with _ | k
    · have := Wire.lineSize_le l; show Wire.lineSize l ≤ _; omega
    · exact hk k rfl
  obtain ⟨m, hm⟩ : ∃ m, m = l.length := ⟨_, rfl⟩
  have CL := Lib.hid (fun u => fclone_any u (S (l.take n)) (by rw [S_size, List.length_take]; omega))
  have TS : n ≤ m → ∀ c : Nat, (convert 31 9 (.slice (some ⟨g, off, none⟩) n c)).run Tryz.prog w = .ok (.string (S (l.take n))) w := fun h c => by
    have e := (hb.take n).bts.toStr byteT (ts := 9) Tryz.underlying9 c
    rw [strB_map, List.length_take, Nat.min_eq_left (by omega)] at e
    exact e
  have HM := Lib.hid hm
  have hcm : m ≤ cp := by omega
  rw [← hm] at LS ⊢
  rcases k with _ | k
  · have e1 : Wire.lineSize l = n := hn.symm
    rw [e1] at LS
    show Calls _ _ #[.slice (some ⟨g, off, none⟩) m cp, .int .i64 (-1)] _ _
    by_cases hle : n ≤ m
    · have f0 : decide ((m : Int) < (n : Int)) = false := decide_eq_false (by omega)
      have hle2 : (n : Int) ≤ (m : Int) := by omega
      have hle4 : (n : Int) ≤ (cp : Int) := by omega
      have hle3 : ¬ (m : Int) < (n : Int) := by omega
      have TS2 := TS hle
      rw [if_pos hle, decide_eq_true hle]
      clear hn hm e1 hk hb hcp TS
      go_enter Tryz.func22, Tryz.ntmps22
      go_wp2_with fail
      refine LS.out.mono ?_
      rintro e w' ⟨rfl, rfl⟩
      clear LS
      go_wp2_with fail
      refine (CL.out _).mono ?_
      rintro e w1 ⟨rfl, hb⟩
      have B1 := Lib.hid hb
      clear hb CL
      go_wp2_with fail
      go_ret2
      exact ⟨rfl, B1.out⟩
    · have f0 : decide ((m : Int) < (n : Int)) = true := decide_eq_true (by omega)
      have hle3 : (m : Int) < (n : Int) := by omega
      rw [if_neg hle, decide_eq_false hle]
      clear hn hm e1 hk CL TS hb hcp
      go_enter Tryz.func22, Tryz.ntmps22
      go_wp2_with fail
      refine LS.out.mono ?_
      rintro e w' ⟨rfl, rfl⟩
      clear LS
      go_wp2_with fail
      go_ret2
      exact ⟨rfl, Below.refl _ _⟩
  · obtain rfl : n = k := hn
    show Calls _ _ #[.slice (some ⟨g, off, none⟩) m cp, .int .i64 (n : Int)] _ _
    have fm : ((n : Int) == -1) = false := by rw [beq_eq_false_iff_ne]; omega
    by_cases hle : n ≤ m
    · have f0 : decide ((m : Int) < (n : Int)) = false := decide_eq_false (by omega)
      have hle2 : (n : Int) ≤ (m : Int) := by omega
      have hle4 : (n : Int) ≤ (cp : Int) := by omega
      have hle3 : ¬ (m : Int) < (n : Int) := by omega
      have TS2 := TS hle
      rw [if_pos hle, decide_eq_true hle]
      clear hm hk LS hb hcp TS
      go_enter Tryz.func22, Tryz.ntmps22
      go_wp2_with fail
      refine (CL.out _).mono ?_
      rintro e w1 ⟨rfl, hb⟩
      have B1 := Lib.hid hb
      clear hb CL
      go_wp2_with fail
      go_ret2
      exact ⟨rfl, B1.out⟩
    · have f0 : decide ((m : Int) < (n : Int)) = true := decide_eq_true (by omega)
      have hle3 : (m : Int) < (n : Int) := by omega
      rw [if_neg hle, decide_eq_false hle]
      clear hm hk CL TS LS hb hcp
      go_enter Tryz.func22, Tryz.ntmps22
      go_wp2_with fail
      go_ret2
      exact ⟨rfl, Below.refl _ _⟩
end Go.Proofs.YtnodhbgkoedalaaGreatDoor
