/-
  wire: strconv.ParseUint over digits alone, at base 10 and at base 16.
-/
import Derived.Test.YtnodhbgkoedalaaGreatDoorR4
import Derived.Test.YtnodhbgkoedalaaGreatDoorQWi
import Derived.Lib.ConvBytes
namespace Go.Proofs.YtnodhbgkoedalaaGreatDoor
open Go.RowKit Reply

theorem or32 (x : Nat) (h : (65 ≤ x ∧ x ≤ 70) ∨ (97 ≤ x ∧ x ≤ 102)) : bits .or .u8 (x : Int) 32 = ((if x ≤ 70 then x + 32 else x : Nat) : Int) := by
  rcases (show x = 65 ∨ x = 66 ∨ x = 67 ∨ x = 68 ∨ x = 69 ∨ x = 70 ∨ x = 97 ∨ x = 98 ∨ x = 99 ∨ x = 100 ∨ x = 101 ∨ x = 102 by omega) with rfl | rfl | rfl | rfl | rfl | rfl | rfl | rfl | rfl | rfl | rfl | rfl <;> decide
set_option maxRecDepth 100000 in
theorem lower_any (w : World) (x : Nat) (h : (65 ≤ x ∧ x ≤ 70) ∨ (97 ≤ x ∧ x ≤ 102)) :
    Calls Tryz.prog 90 #[.int .u8 (x : Int)] w fun e w' => e = .returned (.int .u8 ((if x ≤ 70 then x + 32 else x : Nat) : Int)) ∧ w = w' := by
  have O := or32 x h
  obtain ⟨y, hy⟩ : ∃ y, y = (if x ≤ 70 then x + 32 else x : Nat) := ⟨_, rfl⟩
  rw [← hy] at O ⊢
  clear h hy
  go_enter Tryz.func90, Tryz.ntmps90
  go_wp2
  go_ret
  exact ⟨rfl, rfl⟩
theorem hexV_num {c : UInt8} {x : Nat} (hx : x = c.toNat) (h : x ≤ 57) : Wire.hexV c = x - 48 := by subst hx; unfold Wire.hexV; rw [if_pos h]
theorem hexV_let {c : UInt8} {x : Nat} (hx : x = c.toNat) (h : (65 ≤ x ∧ x ≤ 70) ∨ (97 ≤ x ∧ x ≤ 102)) : Wire.hexV c = (if x ≤ 70 then x + 32 else x) - 97 + 10 := by
  subst hx
  unfold Wire.hexV
  rw [if_neg (by omega)]
  split <;> omega
theorem numOf_lt {base : Nat} : ∀ (k : Nat) {l : Reply.B}, l.length = k → (∀ c ∈ l, Wire.hexV c < base) → Wire.numOf base l < base ^ k
  | 0, l, h, _ => by
    have : l = [] := List.length_eq_zero_iff.1 h
    subst this
    simp [Wire.numOf]
  | k + 1, l, h, hb => by
    obtain ⟨m, c, rfl⟩ : ∃ m c, l = m ++ [c] := ⟨l.dropLast, l.getLast (by rintro rfl; simp at h), (List.dropLast_concat_getLast _).symm⟩
    rw [Wire.numOf_snoc]
    have hm : m.length = k := by simp at h; omega
    have i := numOf_lt k hm (fun d hd => hb d (List.mem_append_left _ hd))
    have hc := hb c (by simp)
    rw [Nat.pow_succ]
    calc Wire.numOf base m * base + Wire.hexV c < Wire.numOf base m * base + base := by omega
      _ = (Wire.numOf base m + 1) * base := by rw [Nat.add_mul, Nat.one_mul]
      _ ≤ base ^ k * base := Nat.mul_le_mul_right _ i

def Dg10 (c : UInt8) : Prop := (48 ≤ c.toNat ∧ c.toNat ≤ 57)
theorem Dg10.lt {c : UInt8} (h : Dg10 c) : Wire.hexV c < 10 := by
  unfold Dg10 at h
  unfold Wire.hexV
  split
  · omega
  · split <;> omega
set_option maxRecDepth 100000 in
set_option maxHeartbeats 32000000 in
theorem iparse10_any (w : World) (l : Reply.B) (h0 : l ≠ []) (hl : l.length ≤ 18) (hd : ∀ c ∈ l, Dg10 c) :
    Calls Tryz.prog 75 #[.string (S l), .int .i64 10, .int .i64 64] w fun e w' => e = .returned (.tuple #[.int .u64 (Wire.numOf 10 l : Int), .nilIface]) ∧ Below w.heap.size w w' := by
  have CV := Lib.run_convert_string_bytes (P := Tryz.prog) w 9 31 5 (S l) Tryz.underlying9 Tryz.underlying31 Tryz.underlying5
  have L0 := Lib.hid (low_new w l)
  have B0 : Hid (Below w.heap.size w (Lib.bytesWorld w 5 (S l))) := bytes_below _ _ _
  obtain ⟨w1, hw1⟩ : ∃ w1, w1 = Lib.bytesWorld w 5 (S l) := ⟨_, rfl⟩
  obtain ⟨cp, hcp⟩ : ∃ cp, cp = grownCap w (S l).size 0 5 := ⟨_, rfl⟩
  obtain ⟨g, hg⟩ : ∃ g, g = w.heap.size := ⟨_, rfl⟩
  rw [← hw1] at CV L0 B0
  rw [← hcp, S_size, ← hg] at CV
  rw [← hg] at L0
  have hemp : (S l).toList.isEmpty = false := by rw [S_empty]; exact decide_eq_false h0
  obtain ⟨s, hs⟩ : ∃ x, x = S l := ⟨_, rfl⟩
  rw [← hs] at CV hemp ⊢
  have HDG := Lib.hid hd
  have HLL := Lib.hid hl
  obtain ⟨n, hn⟩ : ∃ n, n = l.length := ⟨_, rfl⟩
  have HN := Lib.hid hn
  rw [← hn] at CV
  have nz : n ≤ 18 := by omega
  clear hw1 hcp hg hs h0 hd hl hn
  have hmv : IntKind.u64.wrap (IntKind.u64.wrap 18446744073709551616 - 1) = 18446744073709551615 := by
    rw [IntKind.wrap_u64, IntKind.wrap_u64]
    decide
  go_enter Tryz.func75, Tryz.ntmps75
  go_wp2
  go_loop [12, 13, 101] (fun vu vn vi => ∃ (k : Nat) (a : Int), vu = .bool false ∧ vn = .int .u64 a ∧ vi = .int .i64 k ∧ k ≤ n ∧ Hid (a = (Wire.numOf 10 (l.take k) : Int))) (fun _ _ vi => n - (intOf vi).toNat)
  case atStart => exact ⟨0, 0, rfl, rfl, rfl, by omega, by show _ = _; simp [Wire.numOf]⟩
  case round =>
    obtain ⟨k, a, rfl, rfl, rfl, hk, HA⟩ := hrel
    by_cases hlt : k < n
    · have hlz : (k : Int) < (n : Int) := by omega
      have hkl : k < l.length := by rw [← HN.out]; exact hlt
      have hc := L0.out.cell hkl
      obtain ⟨c, hcc⟩ : ∃ c, c = l.getD k 0 := ⟨_, rfl⟩
      rw [← hcc] at hc
      have DG := HDG.out c (by rw [hcc]; exact getD_memU hkl)
      have TK : Hid (l.take (k + 1) = l.take k ++ [c]) := by show _ = _; rw [take_nextU hkl, ← hcc]
      have lt1 : Wire.numOf 10 (l.take k) < 10 ^ k := numOf_lt k (by rw [List.length_take]; omega) (fun d hd => (HDG.out d (List.mem_of_mem_take hd)).lt)
      have lt2 : 10 ^ k ≤ 10 ^ 17 := Nat.pow_le_pow_right (by omega) (by omega)
      have lt3 : (10 : Nat) ^ 17 = 100000000000000000 := by decide
      rw [lt3] at lt2
      have a0 : 0 ≤ a := by have := HA.out; omega
      have a1 : a < 100000000000000000 := by have := HA.out; omega
      have c8 := c.toNat_lt
      have hv := DG.lt
      obtain ⟨x, hx⟩ : ∃ x, x = c.toNat := ⟨_, rfl⟩
      rw [← hx] at hc c8
      unfold Dg10 at DG
      rw [← hx] at DG
      have X := Lib.hid hx
      clear hcc hkl lt1 lt2 lt3 hx
      have hd := DG
      have HV : Wire.hexV c = x - 48 := hexV_num X.out hd.2
      have N : Hid (a * 10 + ((x : Int) - 48) = (Wire.numOf 10 (l.take (k + 1)) : Int)) := by
        show _ = _
        rw [TK.out, Wire.numOf_snoc, HV, HA.out]
        omega
      have icut : a < 1844674407370955162 := by omega
      have f0 : ((x : Int) == 95) = false := by rw [beq_eq_false_iff_ne]; omega
      have f1 : decide ((48 : Int) ≤ (x : Int)) = true := decide_eq_true (by omega)
      have f2 : decide ((x : Int) ≤ 57) = true := decide_eq_true (by omega)
      have hd1 := hd.1
      have hd2 := hd.2
      have iov : a * 10 + ((x : Int) - 48) < 18446744073709551616 := by omega
      clear HV hv hd DG
      go_wp2
      go_round
      case rel => exact ⟨k + 1, a * 10 + ((x : Int) - 48), rfl, by first | rfl | (congr 1; omega), by first | rfl | (congr 1; omega), by omega, N⟩
      case measure => simp [intOf]; omega
    · obtain rfl : k = n := by omega
      have F : Hid (a = (Wire.numOf 10 l : Int)) := by show _ = _; rw [HA.out, HN.out, List.take_length]
      go_wp2
      go_ret2
      exact ⟨by rw [F.out]; rfl, B0.out⟩
set_option maxRecDepth 100000 in
set_option maxHeartbeats 4000000 in
theorem parse10_any (w : World) (l : Reply.B) (h0 : l ≠ []) (hl : l.length ≤ 18) (hd : ∀ c ∈ l, Dg10 c) :
    Calls Tryz.prog 59 #[.string (S l), .int .i64 10, .int .i64 64] w fun e w' => e = .returned (.tuple #[.int .u64 (Wire.numOf 10 l : Int), .nilIface]) ∧ Below w.heap.size w w' := by
  have IP := Lib.hid (iparse10_any w l h0 hl hd)
  obtain ⟨n, hn⟩ : ∃ n, n = Wire.numOf 10 l := ⟨_, rfl⟩
  rw [← hn] at IP ⊢
  clear h0 hl hd hn
  go_enter Tryz.func59, Tryz.ntmps59
  go_wp2_with fail
  refine IP.out.mono ?_
  rintro e w1 ⟨rfl, hb⟩
  have B1 := Lib.hid hb
  clear hb IP
  go_wp2_with fail
  go_ret2
  exact ⟨rfl, B1.out⟩

def Dg16 (c : UInt8) : Prop := (48 ≤ c.toNat ∧ c.toNat ≤ 57) ∨ (65 ≤ c.toNat ∧ c.toNat ≤ 70) ∨ (97 ≤ c.toNat ∧ c.toNat ≤ 102)
theorem Dg16.lt {c : UInt8} (h : Dg16 c) : Wire.hexV c < 16 := by
  unfold Dg16 at h
  unfold Wire.hexV
  split
  · omega
  · split <;> omega
set_option maxRecDepth 100000 in
set_option maxHeartbeats 32000000 in
theorem iparse16_any (w : World) (l : Reply.B) (h0 : l ≠ []) (hl : l.length ≤ 8) (hd : ∀ c ∈ l, Dg16 c) :
    Calls Tryz.prog 75 #[.string (S l), .int .i64 16, .int .i64 64] w fun e w' => e = .returned (.tuple #[.int .u64 (Wire.numOf 16 l : Int), .nilIface]) ∧ Below w.heap.size w w' := by
  have CV := Lib.run_convert_string_bytes (P := Tryz.prog) w 9 31 5 (S l) Tryz.underlying9 Tryz.underlying31 Tryz.underlying5
  have L0 := Lib.hid (low_new w l)
  have B0 : Hid (Below w.heap.size w (Lib.bytesWorld w 5 (S l))) := bytes_below _ _ _
  obtain ⟨w1, hw1⟩ : ∃ w1, w1 = Lib.bytesWorld w 5 (S l) := ⟨_, rfl⟩
  obtain ⟨cp, hcp⟩ : ∃ cp, cp = grownCap w (S l).size 0 5 := ⟨_, rfl⟩
  obtain ⟨g, hg⟩ : ∃ g, g = w.heap.size := ⟨_, rfl⟩
  rw [← hw1] at CV L0 B0
  rw [← hcp, S_size, ← hg] at CV
  rw [← hg] at L0
  have hemp : (S l).toList.isEmpty = false := by rw [S_empty]; exact decide_eq_false h0
  obtain ⟨s, hs⟩ : ∃ x, x = S l := ⟨_, rfl⟩
  rw [← hs] at CV hemp ⊢
  have HDG := Lib.hid hd
  have HLL := Lib.hid hl
  obtain ⟨n, hn⟩ : ∃ n, n = l.length := ⟨_, rfl⟩
  have HN := Lib.hid hn
  rw [← hn] at CV
  have nz : n ≤ 8 := by omega
  clear hw1 hcp hg hs h0 hd hl hn
  have hmv : IntKind.u64.wrap (IntKind.u64.wrap 18446744073709551616 - 1) = 18446744073709551615 := by
    rw [IntKind.wrap_u64, IntKind.wrap_u64]
    decide
  go_enter Tryz.func75, Tryz.ntmps75
  go_wp2
  go_loop [12, 13, 101] (fun vu vn vi => ∃ (k : Nat) (a : Int), vu = .bool false ∧ vn = .int .u64 a ∧ vi = .int .i64 k ∧ k ≤ n ∧ Hid (a = (Wire.numOf 16 (l.take k) : Int))) (fun _ _ vi => n - (intOf vi).toNat)
  case atStart => exact ⟨0, 0, rfl, rfl, rfl, by omega, by show _ = _; simp [Wire.numOf]⟩
  case round =>
    obtain ⟨k, a, rfl, rfl, rfl, hk, HA⟩ := hrel
    by_cases hlt : k < n
    · have hlz : (k : Int) < (n : Int) := by omega
      have hkl : k < l.length := by rw [← HN.out]; exact hlt
      have hc := L0.out.cell hkl
      obtain ⟨c, hcc⟩ : ∃ c, c = l.getD k 0 := ⟨_, rfl⟩
      rw [← hcc] at hc
      have DG := HDG.out c (by rw [hcc]; exact getD_memU hkl)
      have TK : Hid (l.take (k + 1) = l.take k ++ [c]) := by show _ = _; rw [take_nextU hkl, ← hcc]
      have lt1 : Wire.numOf 16 (l.take k) < 16 ^ k := numOf_lt k (by rw [List.length_take]; omega) (fun d hd => (HDG.out d (List.mem_of_mem_take hd)).lt)
      have lt2 : 16 ^ k ≤ 16 ^ 7 := Nat.pow_le_pow_right (by omega) (by omega)
      have lt3 : (16 : Nat) ^ 7 = 268435456 := by decide
      rw [lt3] at lt2
      have a0 : 0 ≤ a := by have := HA.out; omega
      have a1 : a < 268435456 := by have := HA.out; omega
      have c8 := c.toNat_lt
      have hv := DG.lt
      obtain ⟨x, hx⟩ : ∃ x, x = c.toNat := ⟨_, rfl⟩
      rw [← hx] at hc c8
      unfold Dg16 at DG
      rw [← hx] at DG
      have X := Lib.hid hx
      clear hcc hkl lt1 lt2 lt3 hx
      by_cases hd : 48 ≤ x ∧ x ≤ 57
      · have HV : Wire.hexV c = x - 48 := hexV_num X.out hd.2
        have N : Hid (a * 16 + ((x : Int) - 48) = (Wire.numOf 16 (l.take (k + 1)) : Int)) := by
          show _ = _
          rw [TK.out, Wire.numOf_snoc, HV, HA.out]
          omega
        have icut : a < 1152921504606846976 := by omega
        have f0 : ((x : Int) == 95) = false := by rw [beq_eq_false_iff_ne]; omega
        have f1 : decide ((48 : Int) ≤ (x : Int)) = true := decide_eq_true (by omega)
        have f2 : decide ((x : Int) ≤ 57) = true := decide_eq_true (by omega)
        have hd1 := hd.1
        have hd2 := hd.2
        have iov : a * 16 + ((x : Int) - 48) < 18446744073709551616 := by omega
        clear HV hv hd DG
        go_wp2
        go_round
        case rel => exact ⟨k + 1, a * 16 + ((x : Int) - 48), rfl, by first | rfl | (congr 1; omega), by first | rfl | (congr 1; omega), by omega, N⟩
        case measure => simp [intOf]; omega
      · have hl2 : (65 ≤ x ∧ x ≤ 70) ∨ (97 ≤ x ∧ x ≤ 102) := by omega
        have HV : Wire.hexV c = (if x ≤ 70 then x + 32 else x) - 97 + 10 := hexV_let X.out hl2
        have LO := Lib.hid (fun u => lower_any u x hl2)
        obtain ⟨y, hy⟩ : ∃ y, y = (if x ≤ 70 then x + 32 else x : Nat) := ⟨_, rfl⟩
        have y0 : 97 ≤ y ∧ y ≤ 102 := by rw [hy]; split <;> omega
        rw [← hy] at LO HV
        have N : Hid (a * 16 + ((y : Int) - 97 + 10) = (Wire.numOf 16 (l.take (k + 1)) : Int)) := by
          show _ = _
          rw [TK.out, Wire.numOf_snoc, HV, HA.out]
          omega
        have icut : a < 1152921504606846976 := by omega
        have f0 : ((x : Int) == 95) = false := by rw [beq_eq_false_iff_ne]; omega
        have g1 : decide ((97 : Int) ≤ (y : Int)) = true := decide_eq_true (by omega)
        have g2 : decide ((y : Int) ≤ 122) = true := decide_eq_true (by omega)
        have y1 := y0.1
        have y2 := y0.2
        have iov : a * 16 + ((y : Int) - 97 + 10) < 18446744073709551616 := by omega
        clear HV hv hy y0 DG
        by_cases h48 : 48 ≤ x
        · have f1 : decide ((48 : Int) ≤ (x : Int)) = true := decide_eq_true (by omega)
          have f2 : decide ((x : Int) ≤ 57) = false := decide_eq_false (by omega)
          clear hl2 hd
          go_wp2_with fail
          refine (LO.out _).mono ?_
          rintro e w' ⟨rfl, rfl⟩
          go_wp2_with fail
          refine (LO.out _).mono ?_
          rintro e w' ⟨rfl, rfl⟩
          go_wp2_with fail
          refine (LO.out _).mono ?_
          rintro e w' ⟨rfl, rfl⟩
          go_wp2_with fail
          go_round
          case rel => exact ⟨k + 1, a * 16 + ((y : Int) - 97 + 10), rfl, by first | rfl | (congr 1; omega), by first | rfl | (congr 1; omega), by omega, N⟩
          case measure => simp [intOf]; omega
        · omega
    · obtain rfl : k = n := by omega
      have F : Hid (a = (Wire.numOf 16 l : Int)) := by show _ = _; rw [HA.out, HN.out, List.take_length]
      go_wp2
      go_ret2
      exact ⟨by rw [F.out]; rfl, B0.out⟩
set_option maxRecDepth 100000 in
set_option maxHeartbeats 4000000 in
theorem parse16_any (w : World) (l : Reply.B) (h0 : l ≠ []) (hl : l.length ≤ 8) (hd : ∀ c ∈ l, Dg16 c) :
    Calls Tryz.prog 59 #[.string (S l), .int .i64 16, .int .i64 64] w fun e w' => e = .returned (.tuple #[.int .u64 (Wire.numOf 16 l : Int), .nilIface]) ∧ Below w.heap.size w w' := by
  have IP := Lib.hid (iparse16_any w l h0 hl hd)
  obtain ⟨n, hn⟩ : ∃ n, n = Wire.numOf 16 l := ⟨_, rfl⟩
  rw [← hn] at IP ⊢
  clear h0 hl hd hn
  go_enter Tryz.func59, Tryz.ntmps59
  go_wp2_with fail
  refine IP.out.mono ?_
  rintro e w1 ⟨rfl, hb⟩
  have B1 := Lib.hid hb
  clear hb IP
  go_wp2_with fail
  go_ret2
  exact ⟨rfl, B1.out⟩
end Go.Proofs.YtnodhbgkoedalaaGreatDoor
