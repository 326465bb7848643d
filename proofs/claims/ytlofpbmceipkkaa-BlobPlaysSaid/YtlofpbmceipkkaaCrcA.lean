/-
  The walks of package crc's plain functions: shiftByte is eight shifts; Update and Sum are the register over the bytes, the world as it was; the document's own sum likewise.
-/
import Derived.Test.YtlofpbmceipkkaaRows
import Derived.Test.YtlofpbmceipkkaaCrcMath
import Derived.Test.YtlofpbmceipkkaaLaw
import Derived.WalkKit
import Derived.WalkSpells
import Derived.Lib.Hide
import Derived.Outline
import Derived.Laws.BitsAllLaws
namespace Go.Proofs.Ytlofpbmceipkkaa
open Go.RowKit

theorem ret_u32 {a b : Nat} (h : a = b) : Ending.returned (.int .u32 (a : Int)) = .returned (.int .u32 (b : Int)) := by rw [h]
theorem val_u32 {x : Int} {b : Nat} (h : x = (b : Int)) : Value.int .u32 x = Value.int .u32 (b : Int) := by rw [h]

theorem and_one {q : Nat} (hr : q < 4294967296) : bits .and .u32 (q : Int) 1 = ((q % 2 : Nat) : Int) := by
  have h := u32_and_nat q 1 hr (by decide)
  rw [nat_mask1] at h
  exact h
theorem step_odd {q : Nat} (hr : q < 4294967296) (h : (bits .and .u32 (q : Int) 1 == 1) = true) : bits .xor .u32 ((q : Int) / 2) 2197175160 = ((Crc.S q : Nat) : Int) := by
  have h2 : q % 2 = 1 := by
    have h1 := eq_of_beq h
    rw [and_one hr] at h1
    omega
  rw [show (q : Int) / 2 = ((q / 2 : Nat) : Int) by omega, show (2197175160 : Int) = ((2197175160 : Nat) : Int) from rfl, u32_xor_nat _ _ (by omega) (by decide), Crc.S_odd h2]
  rfl
theorem step_even {q : Nat} (hr : q < 4294967296) (h : (bits .and .u32 (q : Int) 1 == 1) = false) : (q : Int) / 2 = ((Crc.S q : Nat) : Int) := by
  have h2 : q % 2 = 0 := by
    have h1 := ne_of_beq_false h
    rw [and_one hr] at h1
    omega
  rw [Crc.S_even h2]
  omega

theorem shift_any (x : Int) (h0 : 0 ≤ x) (h1 : x < 4294967296) (w : World) :
    Calls Try.prog 77 #[.int .u32 x] w fun e w' => e = .returned (.int .u32 ((Crc.Sn 8 x.toNat : Nat) : Int)) ∧ w = w' := by
  obtain ⟨r, rfl⟩ := Int.eq_ofNat_of_zero_le h0
  rw [Int.toNat_natCast]
  have hr0 : r < 4294967296 := by omega
  clear h0 h1
  go_enter Try.func77, Try.ntmps77
  go_wp2
  go_loop [0, 4] (fun x i => ∃ k : Nat, k ≤ 8 ∧ i = .int .i64 k ∧ x = .int .u32 ((Crc.Sn k r : Nat) : Int)) (fun _ i => 8 - (intOf i).toNat)
  case atStart => exact ⟨0, by omega, rfl, rfl⟩
  case round =>
    obtain ⟨k, hk, rfl, rfl⟩ := hrel
    have hr : Crc.Sn k r < 4294967296 := Crc.Sn_lt k hr0
    have HS := Lib.hid (Crc.Sn_succ k r)
    have HK := Lib.hid (fun h : k = 8 => h ▸ (rfl : Crc.Sn k r = Crc.Sn k r))
    by_cases hlt : k < 8
    · generalize Crc.Sn k r = q at *
      go_wp2
      · go_round
        case rel => exact ⟨k + 1, by omega, by go_num, by rw [HS.out]; exact val_u32 (step_odd hr ‹_›)⟩
        case measure => simp [intOf]; omega
      · go_round
        case rel => exact ⟨k + 1, by omega, by go_num, by rw [HS.out]; exact val_u32 (step_even hr ‹_›)⟩
        case measure => simp [intOf]; omega
    · obtain rfl : k = 8 := by omega
      go_wp2
      go_ret
      exact ⟨rfl, rfl⟩

theorem xor_max {r : Nat} (h : r < 4294967296) : bits .xor .u32 IntKind.u32.max (r : Int) = ((Crc.inv r : Nat) : Int) := by
  have e : IntKind.u32.max = ((4294967295 : Nat) : Int) := by decide
  rw [e, u32_xor_nat _ _ (by decide) h, Nat.xor_comm]
  rfl
theorem take_run {r : Nat} {l : List Nat} {k : Nat} (h : k < l.length) : Crc.run r (l.take (k + 1)) = Crc.Sn 8 (Crc.run r (l.take k) ^^^ l.getD k 0) := by
  rw [List.take_succ_eq_append_getElem h, Crc.run_snoc, List.getD_eq_getElem?_getD, List.getElem?_eq_getElem h]
  rfl

set_option maxHeartbeats 400000 in
theorem update_any (x : Int) (h0 : 0 ≤ x) (h1 : x < 4294967296) (A : Option Addr) (n c : Nat) (l : List Nat) (w : World) (hn : n ≤ 9223372036854775807) (hb : Bts w A n l) :
    Calls Try.prog 69 #[.int .u32 x, .slice A n c] w fun e w' => e = .returned (.int .u32 ((Crc.upd x.toNat l : Nat) : Int)) ∧ w = w' := by
  obtain ⟨r, rfl⟩ := Int.eq_ofNat_of_zero_le h0
  rw [Int.toNat_natCast]
  have hr0 : r < 4294967296 := by omega
  clear h0 h1
  obtain ⟨hl, hl8, hb⟩ := hb
  have HL := Lib.hid hl
  clear hl
  go_enter Try.func69, Try.ntmps69
  go_wp2
  go_loop [5, 12] (fun x i => ∃ k : Nat, k ≤ n ∧ i = .int .i64 k ∧ x = .int .u32 ((Crc.run (Crc.inv r) (l.take k) : Nat) : Int)) (fun _ i => n - (intOf i).toNat)
  case atStart => exact ⟨0, by omega, rfl, val_u32 (xor_max hr0)⟩
  case round =>
    obtain ⟨k, hk, rfl, rfl⟩ := hrel
    have hr : Crc.run (Crc.inv r) (l.take k) < 4294967296 := Crc.run_lt _ (Crc.inv_lt hr0) fun x hx => hl8 x (List.mem_of_mem_take hx)
    by_cases hlt : k < n
    · obtain ⟨b, off, rfl, _, hcell⟩ := hb (by omega)
      have hc := hcell k hlt
      have h8 : l.getD k 0 < 256 := by
        have hk' : k < l.length := by rw [HL.out]; exact hlt
        rw [List.getD_eq_getElem?_getD, List.getElem?_eq_getElem hk']
        exact hl8 _ (List.getElem_mem hk')
      have HS := Lib.hid (take_run (r := Crc.inv r) (l := l) (k := k) (by rw [HL.out]; exact hlt))
      clear hcell hb hl8
      generalize Crc.run (Crc.inv r) (l.take k) = q at *
      generalize l.getD k 0 = e at *
      have hx := u32_xor_nat q e hr (by omega)
      have hq := Crc.xor_lt hr (show e < 4294967296 by omega)
      go_wp2_with (go_at_call 77; refine (shift_any _ (by omega) (by omega) _).mono ?_; rintro e w' ⟨rfl, rfl⟩)
      go_round
      case rel => exact ⟨k + 1, by omega, by go_num, by rw [HS.out]⟩
      case measure => simp [intOf]; omega
    · obtain rfl : k = n := by omega
      go_wp2
      go_ret
      refine ⟨?_, rfl⟩
      rw [List.take_of_length_le (by rw [HL.out]; exact Nat.le_refl _), xor_max (by rwa [List.take_of_length_le (by rw [HL.out]; exact Nat.le_refl _)] at hr)]
      rfl

theorem sum_any (A : Option Addr) (n c : Nat) (l : List Nat) (w : World) (hn : n ≤ 9223372036854775807) (hb : Bts w A n l) :
    Calls Try.prog 70 #[.slice A n c] w fun e w' => e = .returned (.int .u32 ((Crc.sum l : Nat) : Int)) ∧ w = w' := by
  have HB := Lib.hid hb
  clear hb
  go_enter Try.func70, Try.ntmps70
  go_wp2_with (go_at_call 69; refine (update_any 0 (by omega) (by omega) A n c l _ hn HB.out).mono ?_; rintro e w' ⟨rfl, rfl⟩)
  go_ret
  exact ⟨rfl, rfl⟩

theorem step_odd' {q : Nat} (hr : q < 4294967296) (h : ((q : Int) % 2 == 1) = true) : bits .xor .u32 ((q : Int) / 2) 2197175160 = ((Crc.S q : Nat) : Int) :=
  step_odd hr (by rw [and_one hr]; exact h)
theorem step_even' {q : Nat} (h : ((q : Int) % 2 == 1) = false) : (q : Int) / 2 = ((Crc.S q : Nat) : Int) := by
  have h2 : q % 2 = 0 := by
    have h1 := ne_of_beq_false h
    omega
  rw [Crc.S_even h2]
  omega

end Go.Proofs.Ytlofpbmceipkkaa
