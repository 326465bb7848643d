/-
  uri: what the document's functions answer: Hex, rune1, UTF8.
-/
import Derived.Test.YtpnmddealjoiiaaDoorU1
namespace Go.Proofs.YtpnmddealjoiiaaDoor
open Go.RowKit Uri

theorem low_at : ∀ k (hk : k < 16), ((⟨#[48, 49, 50, 51, 52, 53, 54, 55, 56, 57, 97, 98, 99, 100, 101, 102]⟩ : ByteArray)[k]'hk).toNat = digS k := by
  intro k hk
  have : k = 0 ∨ k = 1 ∨ k = 2 ∨ k = 3 ∨ k = 4 ∨ k = 5 ∨ k = 6 ∨ k = 7 ∨ k = 8 ∨ k = 9 ∨ k = 10 ∨ k = 11 ∨ k = 12 ∨ k = 13 ∨ k = 14 ∨ k = 15 := by omega
  rcases this with rfl | rfl | rfl | rfl | rfl | rfl | rfl | rfl | rfl | rfl | rfl | rfl | rfl | rfl | rfl | rfl <;> rfl
theorem up_at : ∀ k (hk : k < 16), ((⟨#[48, 49, 50, 51, 52, 53, 54, 55, 56, 57, 65, 66, 67, 68, 69, 70]⟩ : ByteArray)[k]'hk).toNat = dig k := by
  intro k hk
  have : k = 0 ∨ k = 1 ∨ k = 2 ∨ k = 3 ∨ k = 4 ∨ k = 5 ∨ k = 6 ∨ k = 7 ∨ k = 8 ∨ k = 9 ∨ k = 10 ∨ k = 11 ∨ k = 12 ∨ k = 13 ∨ k = 14 ∨ k = 15 := by omega
  rcases this with rfl | rfl | rfl | rfl | rfl | rfl | rfl | rfl | rfl | rfl | rfl | rfl | rfl | rfl | rfl | rfl <;> rfl
theorem hexI_dig {k : Nat} (h : k < 16) : hexI (dig k) = k := by unfold hexI; rw [hex_dig h]
theorem hexI_digS {k : Nat} (h : k < 16) : hexI (digS k) = k := by unfold hexI; rw [hex_digS h]
theorem hexI_none {c : Nat} (h : ∀ k < 16, c ≠ dig k ∧ c ≠ digS k) : hexI c = -1 := by
  unfold hexI hex
  by_cases h1 : 48 ≤ c ∧ c ≤ 57
  · exact absurd (by unfold dig; rw [if_pos (by omega)]; omega) (h (c - 48) (by omega)).1
  · rw [if_neg h1]
    by_cases h2 : 97 ≤ c ∧ c ≤ 102
    · exact absurd (by unfold digS; rw [if_neg (by omega)]; omega) (h (c - 87) (by omega)).2
    · rw [if_neg h2]
      by_cases h3 : 65 ≤ c ∧ c ≤ 70
      · exact absurd (by unfold dig; rw [if_neg (by omega)]; omega) (h (c - 55) (by omega)).1
      · rw [if_neg h3]
set_option maxHeartbeats 800000 in
theorem hex_any (w : World) (c : Nat) (_hc : c < 256) :
    Calls Tryd.prog 40 #[.int .u8 (c : Int)] w fun e w' => e = .returned (.int .i64 (hexI c)) ∧ w = w' := by
  go_enter Tryd.func40, Tryd.ntmps40
  go_wp2
  go_loop [3] (fun i => ∃ k : Nat, k ≤ 16 ∧ i = .int .i64 k ∧ Hid (∀ j < k, c ≠ dig j ∧ c ≠ digS j)) (fun i => 16 - (intOf i).toNat)
  case atStart => exact ⟨0, by omega, rfl, by show ∀ j < 0, _; intro j hj; omega⟩
  case round =>
    obtain ⟨k, hk, rfl, hn⟩ := hrel
    by_cases hlt : k < 16
    · have hlz : (k : Int) < 16 := by omega
      have L1 := low_at k hlt
      have L2 := up_at k hlt
      by_cases hS : digS k = c
      · have E := Lib.hid (hexI_digS hlt)
        rw [hS] at E L1
        have e1 : (((((⟨#[48, 49, 50, 51, 52, 53, 54, 55, 56, 57, 97, 98, 99, 100, 101, 102]⟩ : ByteArray)[k]'hlt).toNat : Nat) : Int) == (c : Int)) = true := by rw [L1]; simp
        clear hS L1 L2
        go_wp2
        go_ret
        exact ⟨ret_i64 E.out.symm, rfl⟩
      · have e1 : (((((⟨#[48, 49, 50, 51, 52, 53, 54, 55, 56, 57, 97, 98, 99, 100, 101, 102]⟩ : ByteArray)[k]'hlt).toNat : Nat) : Int) == (c : Int)) = false := by rw [L1]; simp; omega
        by_cases hU : dig k = c
        · have E := Lib.hid (hexI_dig hlt)
          rw [hU] at E L2
          have e2 : (((((⟨#[48, 49, 50, 51, 52, 53, 54, 55, 56, 57, 65, 66, 67, 68, 69, 70]⟩ : ByteArray)[k]'hlt).toNat : Nat) : Int) == (c : Int)) = true := by rw [L2]; simp
          clear hS hU L1 L2
          go_wp2
          go_ret
          exact ⟨ret_i64 E.out.symm, rfl⟩
        · have e2 : (((((⟨#[48, 49, 50, 51, 52, 53, 54, 55, 56, 57, 65, 66, 67, 68, 69, 70]⟩ : ByteArray)[k]'hlt).toNat : Nat) : Int) == (c : Int)) = false := by rw [L2]; simp; omega
          have N : Hid (∀ j < k + 1, c ≠ dig j ∧ c ≠ digS j) := fun j hj => by
            rcases Nat.lt_or_ge j k with h | h
            · exact hn.out j h
            · obtain rfl : j = k := by omega
              exact ⟨fun e => hU e.symm, fun e => hS e.symm⟩
          clear hS hU L1 L2
          go_wp2
          go_round
          case rel => exact ⟨k + 1, by omega, by go_num, N⟩
          case measure => simp [intOf]; omega
    · obtain rfl : k = 16 := by omega
      have E := Lib.hid (hexI_none hn.out)
      go_wp2
      go_ret
      exact ⟨ret_i64 E.out.symm, rfl⟩
end Go.Proofs.YtpnmddealjoiiaaDoor
