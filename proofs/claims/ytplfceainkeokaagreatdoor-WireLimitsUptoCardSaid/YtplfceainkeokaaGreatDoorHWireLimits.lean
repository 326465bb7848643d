/-
  WireLimits: just as long as may be is taken, one more is refused: a line, the headers, how many they are, a body (where all that comes in is of bulk at most 1048576).
-/
import Derived.Test.YtplfceainkeokaaGreatDoorQL1
import Derived.Test.YtplfceainkeokaaGreatDoorQC1
namespace Go.Proofs.YtplfceainkeokaaGreatDoor.wireLimits
open Go.ChangeShapes Go.WideShapes Go.ChangeAt Go.RowKit Go.Deep Reply

theorem wf8 {z : Int} (h : (Lit.int .u8 z).wf = true) : 0 ≤ z ∧ z ≤ 255 := by
  simpa [Lit.wf, IntKind.min, IntKind.max, IntKind.signed, IntKind.bits] using h
set_option maxRecDepth 100000 in
set_option maxHeartbeats 32000000 in
theorem walk (CA : ClosesAll) (w : World) (E : Env w) (x : Nat) (hx : x < 256) :
    Calls Tryz.prog 5 #[.int .u8 (x : Int)] w fun e w' => e = .returned (.bool true) ∧ Below w.heap.size w w' := by
  have HE := Lib.hid E
  have FX := Lib.hid (fixed_any CA w E)
  obtain ⟨k, hk⟩ : ∃ k, k = x % 3 := ⟨_, rfl⟩
  have k2 : k ≤ 2 := by omega
  have hrem : (x : Int).tmod 3 = (k : Int) := by rw [Int.tmod_eq_emod_of_nonneg (by omega), hk]; rfl
  obtain ⟨p1, hp1⟩ : ∃ y, y = S (Wire.pad (1010 + k)) := ⟨_, rfl⟩
  have z1 : p1.size ≤ 2000 := by rw [hp1, S_size, pad_l]; omega
  have P1 : Hid (∀ u, Calls Tryz.prog 12 #[.int .i64 (1010 + (k : Int))] u fun e w' => e = .returned (.string p1) ∧ Below u.heap.size u w') := fun u => by have := pad_any u (1010 + k) (by omega); rwa [show ((1010 + k : Nat) : Int) = 1010 + (k : Int) by omega, ← hp1] at this
  obtain ⟨p2, hp2⟩ : ∃ y, y = S (Wire.pad (1022 + k)) := ⟨_, rfl⟩
  have z2 : p2.size ≤ 2000 := by rw [hp2, S_size, pad_l]; omega
  have P2 : Hid (∀ u, Calls Tryz.prog 12 #[.int .i64 (1022 + (k : Int))] u fun e w' => e = .returned (.string p2) ∧ Below u.heap.size u w') := fun u => by have := pad_any u (1022 + k) (by omega); rwa [show ((1022 + k : Nat) : Int) = 1022 + (k : Int) by omega, ← hp2] at this
  obtain ⟨p3, hp3⟩ : ∃ y, y = S (Wire.pad (1011 + k)) := ⟨_, rfl⟩
  have z3 : p3.size ≤ 2000 := by rw [hp3, S_size, pad_l]; omega
  have P3 : Hid (∀ u, Calls Tryz.prog 12 #[.int .i64 (1011 + (k : Int))] u fun e w' => e = .returned (.string p3) ∧ Below u.heap.size u w') := fun u => by have := pad_any u (1011 + k) (by omega); rwa [show ((1011 + k : Nat) : Int) = 1011 + (k : Int) by omega, ← hp3] at this
  obtain ⟨p4, hp4⟩ : ∃ y, y = S (Wire.pad 1020) := ⟨_, rfl⟩
  have z4 : p4.size = 1020 := by rw [hp4, S_size, pad_l]
  have P4 : Hid (∀ u, Calls Tryz.prog 12 #[.int .i64 1020] u fun e w' => e = .returned (.string p4) ∧ Below u.heap.size u w') := fun u => by have := pad_any u 1020 (by omega); rwa [← hp4] at this
  obtain ⟨p5, hp5⟩ : ∃ y, y = S (Wire.pad 8192) := ⟨_, rfl⟩
  have z5 : p5.size = 8192 := by rw [hp5, S_size, pad_l]
  have P5 : Hid (∀ u, Calls Tryz.prog 12 #[.int .i64 8192] u fun e w' => e = .returned (.string p5) ∧ Below u.heap.size u w') := fun u => by have := pad_any u 8192 (by omega); rwa [← hp5] at this
  obtain ⟨dg, hdg⟩ : ∃ y, y = S (Wire.digs 10 (8192 + k)) := ⟨_, rfl⟩
  have zd : dg.size ≤ 10 := by rw [hdg, S_size]; have := Wire.digs_len (base := 10) (by omega) 3 (8192 + k) (by omega); omega
  have NU : Hid (∀ u, Calls Tryz.prog 11 #[.int .i64 (8192 + (k : Int)), .int .i64 10] u fun e w' => e = .returned (.string dg) ∧ u = w') := fun u => by have := lnumber_any 10 (.inl rfl) (8192 + k) (by omega) u; rw [show ((8192 + k : Nat) : Int) = 8192 + (k : Int) by omega, ← hdg] at this; exact this
  obtain ⟨v1, hv1⟩ : ∃ y : Int, y = if k = 0 then 0 else 414 := ⟨_, rfl⟩
  have R1 : Hid (∀ u, Env u → Calls Tryz.prog 9 #[.string (⟨#[71, 69, 84, 32, 47]⟩ ++ p1 ++ ⟨#[32, 72, 84, 84, 80, 47, 49, 46, 49, 13, 10, 104, 111, 115, 116, 58, 32, 104, 13, 10, 13, 10]⟩)] u fun e w' => (∃ (a0 a1 : ByteArray) (A : Option Addr) (n c : Nat) (a3 : ByteArray) (a4 : Bool) (m : Int), e = .returned (.tuple #[.agg #[.string a0, .string a1, .slice A n c, .string a3, .bool a4], .int .i64 m, .int .i64 v1])) ∧ Below u.heap.size u w') := fun u K => by
    obtain ⟨t, s', h⟩ := Wire.lim_line k
    rw [← hv1] at h
    have e := text1 k
    rw [← hp1] at e
    rw [e]
    exact readS CA u K _ (by rw [← S_size, ← e]; simp only [ByteArray.size_append]; show 5 + p1.size + 22 ≤ _; omega) h
  obtain ⟨v2, hv2⟩ : ∃ y : Int, y = if k = 0 then 0 else 431 := ⟨_, rfl⟩
  have R2 : Hid (∀ u, Env u → Calls Tryz.prog 9 #[.string (⟨#[71, 69, 84, 32, 47, 32, 72, 84, 84, 80, 47, 49, 46, 49, 13, 10, 104, 111, 115, 116, 58, 32, 104, 13, 10, 97, 58]⟩ ++ p2 ++ ⟨#[13, 10, 13, 10]⟩)] u fun e w' => (∃ (a0 a1 : ByteArray) (A : Option Addr) (n c : Nat) (a3 : ByteArray) (a4 : Bool) (m : Int), e = .returned (.tuple #[.agg #[.string a0, .string a1, .slice A n c, .string a3, .bool a4], .int .i64 m, .int .i64 v2])) ∧ Below u.heap.size u w') := fun u K => by
    obtain ⟨t, s', h⟩ := Wire.lim_head k
    rw [← hv2] at h
    have e := text2 k
    rw [← hp2] at e
    rw [e]
    exact readS CA u K _ (by rw [← S_size, ← e]; simp only [ByteArray.size_append]; show 27 + p2.size + 4 ≤ _; omega) h
  obtain ⟨v3, hv3⟩ : ∃ y : Int, y = if k = 0 then 0 else 431 := ⟨_, rfl⟩
  have R3 : Hid (∀ u, Env u → Calls Tryz.prog 9 #[.string (S (heads 3) ++ ⟨#[98, 58]⟩ ++ p3 ++ ⟨#[13, 10, 13, 10]⟩)] u fun e w' => (∃ (a0 a1 : ByteArray) (A : Option Addr) (n c : Nat) (a3 : ByteArray) (a4 : Bool) (m : Int), e = .returned (.tuple #[.agg #[.string a0, .string a1, .slice A n c, .string a3, .bool a4], .int .i64 m, .int .i64 v3])) ∧ Below u.heap.size u w') := fun u K => by
    obtain ⟨t, s', h⟩ := Wire.lim_heads k k2
    rw [← hv3] at h
    have e := text3 k
    rw [← hp3] at e
    rw [e]
    exact readS CA u K _ (by rw [← S_size, ← e]; simp only [ByteArray.size_append]; rw [S_size, heads_len]; show 25 + 1024 * 3 + 2 + p3.size + 4 ≤ _; omega) h
  obtain ⟨v4, hv4⟩ : ∃ y : Int, y = if k = 0 then 0 else 431 := ⟨_, rfl⟩
  have R4 : Hid (∀ u, Env u → Calls Tryz.prog 9 #[.string (S (manyL (31 + k)) ++ ⟨#[13, 10]⟩)] u fun e w' => (∃ (a0 a1 : ByteArray) (A : Option Addr) (n c : Nat) (a3 : ByteArray) (a4 : Bool) (m : Int), e = .returned (.tuple #[.agg #[.string a0, .string a1, .slice A n c, .string a3, .bool a4], .int .i64 m, .int .i64 v4])) ∧ Below u.heap.size u w') := fun u K => by
    obtain ⟨t, s', h⟩ := Wire.lim_many k k2
    rw [← hv4] at h
    have e := text4 k
    rw [e]
    exact readS CA u K _ (by rw [← S_size, ← e]; simp only [ByteArray.size_append]; rw [S_size, many_len]; show 25 + 4 * (31 + k) + 2 ≤ _; omega) h
  obtain ⟨v5, hv5⟩ : ∃ y : Int, y = if k = 0 then 0 else 413 := ⟨_, rfl⟩
  have R5 : Hid (∀ u, Env u → Calls Tryz.prog 9 #[.string (⟨#[71, 69, 84, 32, 47, 32, 72, 84, 84, 80, 47, 49, 46, 49, 13, 10, 104, 111, 115, 116, 58, 32, 104, 13, 10, 99, 111, 110, 116, 101, 110, 116, 45, 108, 101, 110, 103, 116, 104, 58, 32]⟩ ++ dg ++ ⟨#[13, 10, 13, 10]⟩ ++ p5)] u fun e w' => (∃ (a0 a1 : ByteArray) (A : Option Addr) (n c : Nat) (a3 : ByteArray) (a4 : Bool) (m : Int), e = .returned (.tuple #[.agg #[.string a0, .string a1, .slice A n c, .string a3, .bool a4], .int .i64 m, .int .i64 v5])) ∧ Below u.heap.size u w') := fun u K => by
    obtain ⟨t, s', h⟩ := Wire.lim_body k k2
    rw [← hv5] at h
    have e := text5 k
    rw [← hp5, ← hdg] at e
    rw [e]
    exact readS CA u K _ (by rw [← S_size, ← e]; simp only [ByteArray.size_append]; show 41 + dg.size + 4 + p5.size ≤ _; omega) h
  have HS : Hid (∀ i, heads (i + 1) = heads i ++ ([97, 58] ++ Wire.pad 1020 ++ [13, 10])) := fun _ => rfl
  have HA : Hid (∀ i, S (heads i) ++ (⟨#[97, 58]⟩ ++ p4 ++ ⟨#[13, 10]⟩) = S (heads (i + 1))) := fun i => by
    rw [hp4, show (⟨#[97, 58]⟩ : ByteArray) = S [97, 58] from rfl, show (⟨#[13, 10]⟩ : ByteArray) = S [13, 10] from rfl, S_append, S_append, S_append]
    rfl
  have MA : Hid (∀ i, S (manyL i) ++ ⟨#[97, 58, 13, 10]⟩ = S (manyL (i + 1))) := fun i => by
    rw [show (⟨#[97, 58, 13, 10]⟩ : ByteArray) = S [97, 58, 13, 10] from rfl, S_append]
    rfl
  have kz : (k : Int) ≤ 2 := by omega
  have HV := Lib.hid (And.intro hv1 (And.intro hv2 (And.intro hv3 (And.intro hv4 hv5))))
  clear E hk hp1 hp2 hp3 hp4 hp5 hdg CA hv1 hv2 hv3 hv4 hv5
  go_enter Tryz.func5, Tryz.ntmps5
  go_wp2_with fail
  refine FX.out.mono ?_
  rintro e w1 ⟨rfl, hb⟩
  have B1 := Lib.hid hb
  clear hb FX
  have B2 : Hid (Below w.heap.size w (w1.alloc (.cells #[.int .i64 0, .int .i64 414, .int .i64 414] 35))) := B1.out.alloc B1.out.size _
  have W0 : Hid (Held (w1.alloc (.cells #[.int .i64 0, .int .i64 414, .int .i64 414] 35)) w1.heap.size 35 #[.int .i64 0, .int .i64 414, .int .i64 414]) := Held.new _ _ _ rfl
  go_wp2_with fail
  refine (P1.out _).mono ?_
  rintro e w3 ⟨rfl, hb⟩
  have B3 := Lib.hid (B2.out.trans (hb.mono B2.out.size))
  have K3 := Lib.hid (W0.out.below hb W0.out.lt)
  clear hb
  go_wp2_with fail
  refine (R1.out _ (HE.out.below B3.out)).mono ?_
  rintro e w4 ⟨⟨a0, a1, A4, n4, c4, a3, a4, m4, rfl⟩, hb⟩
  have B4 : Hid (Below w.heap.size w (w4.alloc (.cells #[.string a0, .string a1, .slice A4 n4 c4, .string a3, .bool a4] 26))) := by
    have h := B3.out.trans (hb.mono B3.out.size)
    exact h.alloc h.size _
  have K4 : Hid (Held (w4.alloc (.cells #[.string a0, .string a1, .slice A4 n4 c4, .string a3, .bool a4] 26)) w1.heap.size 35 #[.int .i64 0, .int .i64 414, .int .i64 414]) := (K3.out.below hb K3.out.lt).alloc _
  clear hb R1
  go_wp2_with fail
  refine (P2.out _).mono ?_
  rintro e w5 ⟨rfl, hb⟩
  have B5 := Lib.hid (B4.out.trans (hb.mono B4.out.size))
  have K5 := Lib.hid (K4.out.below hb K4.out.lt)
  clear hb
  go_wp2_with fail
  refine (R2.out _ (HE.out.below B5.out)).mono ?_
  rintro e w6 ⟨⟨a0, a1, A6, n6, c6, a3, a4, m6, rfl⟩, hb⟩
  have B6 : Hid (Below w.heap.size w (w6.alloc (.cells #[.string a0, .string a1, .slice A6 n6 c6, .string a3, .bool a4] 26))) := by
    have h := B5.out.trans (hb.mono B5.out.size)
    exact h.alloc h.size _
  have K6 : Hid (Held (w6.alloc (.cells #[.string a0, .string a1, .slice A6 n6 c6, .string a3, .bool a4] 26)) w1.heap.size 35 #[.int .i64 0, .int .i64 414, .int .i64 414]) := (K5.out.below hb K5.out.lt).alloc _
  clear hb R2
  go_wp2_with fail
  go_loopw [12, 13] (fun v i wr => ∃ j : Nat, j ≤ 3 ∧ i = .int .i64 j ∧ v = .string (S (heads j)) ∧ Hid (Below w.heap.size w wr) ∧ Hid (Held wr w1.heap.size 35 #[.int .i64 0, .int .i64 414, .int .i64 414])) (fun _ i _ => 3 - (intOf i).toNat)
  case atStart => exact ⟨0, by omega, rfl, rfl, B6, K6⟩
  case round =>
    obtain ⟨j, hj, rfl, rfl, HB, HW⟩ := hrel
    by_cases hlt : j < 3
    · have hlz : (j : Int) < 3 := by omega
      have AJ := HA.out j
      have SJ : (S (heads j)).size ≤ 4000 := by rw [S_size, heads_len]; omega
      have q1 : ¬ 9223372036854775807 < (S (heads j)).size + (2 + 1020 + 2) := by omega
      have q2 : ¬ 9223372036854775807 < (S (heads j)).size + (⟨#[97, 58]⟩ ++ p4 ++ ⟨#[13, 10]⟩ : ByteArray).size := by rw [ByteArray.size_append, ByteArray.size_append, z4]; show ¬ _ < _ + (2 + 1020 + 2); omega
      obtain ⟨hs, hhs⟩ : ∃ y, y = S (heads j) := ⟨_, rfl⟩
      rw [← hhs] at AJ SJ q1 q2 ⊢
      have q3 : ¬ 9223372036854775807 < hs.size + 1024 := by omega
      clear hhs
      go_wp2_with fail
      refine (P4.out _).mono ?_
      rintro e w9 ⟨rfl, hb⟩
      have B9 := Lib.hid (HB.out.trans (hb.mono HB.out.size))
      have K9 := Lib.hid (HW.out.below hb HW.out.lt)
      clear hb
      go_wp2_with fail
      go_roundw
      case rel => exact ⟨j + 1, by omega, by go_num, by first | rfl | rw [AJ], B9, K9⟩
      case measure => simp [intOf]; omega
    · obtain rfl : j = 3 := by omega
      have S3 : (S (heads 3)).size = 3097 := by rw [S_size, heads_len]
      obtain ⟨h3, hh3⟩ : ∃ y, y = S (heads 3) := ⟨_, rfl⟩
      rw [← hh3] at S3 R3 ⊢
      clear hh3
      go_wp2_with fail
      refine (P3.out _).mono ?_
      rintro e w7 ⟨rfl, hb⟩
      have B7 := Lib.hid (HB.out.trans (hb.mono HB.out.size))
      have K7 := Lib.hid (HW.out.below hb HW.out.lt)
      clear hb
      go_wp2_with fail
      refine (R3.out _ (HE.out.below B7.out)).mono ?_
      rintro e w8 ⟨⟨a0, a1, A8, n8, c8, a3, a4, m8, rfl⟩, hb⟩
      have B8 : Hid (Below w.heap.size w (w8.alloc (.cells #[.string a0, .string a1, .slice A8 n8 c8, .string a3, .bool a4] 26))) := by
        have h := B7.out.trans (hb.mono B7.out.size)
        exact h.alloc h.size _
      have K8 : Hid (Held (w8.alloc (.cells #[.string a0, .string a1, .slice A8 n8 c8, .string a3, .bool a4] 26)) w1.heap.size 35 #[.int .i64 0, .int .i64 414, .int .i64 414]) := (K7.out.below hb K7.out.lt).alloc _
      clear hb R3
      have M0 : S (manyL 0) = ⟨#[71, 69, 84, 32, 47, 32, 72, 84, 84, 80, 47, 49, 46, 49, 13, 10, 104, 111, 115, 116, 58, 32, 104, 13, 10]⟩ := rfl
      go_wp2_with fail
      rw [← M0]
      go_loop [17, 18] (fun v i => ∃ j : Nat, j ≤ 31 + k ∧ i = .int .i64 j ∧ v = .string (S (manyL j))) (fun _ i => 31 + k - (intOf i).toNat)
      case atStart => exact ⟨0, by omega, rfl, rfl⟩
      case round =>
        obtain ⟨j, hj, rfl, rfl⟩ := hrel
        by_cases hlt : j < 31 + k
        · have hlz : (j : Int) < 31 + (k : Int) := by omega
          have AJ := MA.out j
          have SJ : (S (manyL j)).size ≤ 400 := by rw [S_size, many_len]; omega
          obtain ⟨hs, hhs⟩ : ∃ y, y = S (manyL j) := ⟨_, rfl⟩
          rw [← hhs] at AJ SJ ⊢
          clear hhs
          have q3 : ¬ 9223372036854775807 < hs.size + 4 := by omega
          go_wp2_with fail
          go_round
          case rel => exact ⟨j + 1, by omega, by go_num, by first | rfl | rw [AJ]⟩
          case measure => simp [intOf]; omega
        · obtain rfl : j = 31 + k := by omega
          have hlz : ¬ (((31 + k : Nat) : Int) < 31 + (k : Int)) := by omega
          have SJ : (S (manyL (31 + k))).size ≤ 400 := by rw [S_size, many_len]; omega
          obtain ⟨hm, hhm⟩ : ∃ y, y = S (manyL (31 + k)) := ⟨_, rfl⟩
          rw [← hhm] at SJ R4 ⊢
          clear hhm
          have q3 : ¬ 9223372036854775807 < hm.size + 2 := by omega
          go_wp2_with fail
          refine (R4.out _ (HE.out.below B8.out)).mono ?_
          rintro e w9 ⟨⟨a0, a1, A9, n9, c9, a3, a4, m9, rfl⟩, hb⟩
          have B9 : Hid (Below w.heap.size w (w9.alloc (.cells #[.string a0, .string a1, .slice A9 n9 c9, .string a3, .bool a4] 26))) := by
            have h := B8.out.trans (hb.mono B8.out.size)
            exact h.alloc h.size _
          have K9 : Hid (Held (w9.alloc (.cells #[.string a0, .string a1, .slice A9 n9 c9, .string a3, .bool a4] 26)) w1.heap.size 35 #[.int .i64 0, .int .i64 414, .int .i64 414]) := (K8.out.below hb K8.out.lt).alloc _
          clear hb R4
          go_wp2_with fail
          refine (NU.out _).mono ?_
          rintro e w' ⟨rfl, rfl⟩
          go_wp2_with fail
          refine (P5.out _).mono ?_
          rintro e w11 ⟨rfl, hb⟩
          have B11 := Lib.hid (B9.out.trans (hb.mono B9.out.size))
          have K11 := Lib.hid (K9.out.below hb K9.out.lt)
          clear hb
          go_wp2_with fail
          refine (R5.out _ (HE.out.below B11.out)).mono ?_
          rintro e w12 ⟨⟨a0, a1, A12, n12, c12, a3, a4, m12, rfl⟩, hb⟩
          have B12 : Hid (Below w.heap.size w (w12.alloc (.cells #[.string a0, .string a1, .slice A12 n12 c12, .string a3, .bool a4] 26))) := by
            have h := B11.out.trans (hb.mono B11.out.size)
            exact h.alloc h.size _
          have K12 : Hid (Held (w12.alloc (.cells #[.string a0, .string a1, .slice A12 n12 c12, .string a3, .bool a4] 26)) w1.heap.size 35 #[.int .i64 0, .int .i64 414, .int .i64 414]) := (K11.out.below hb K11.out.lt).alloc _
          clear hb R5
          have x0 := K12.out.cell 0
          have x1 := K12.out.cell 1
          have x2 := K12.out.cell 2
          obtain ⟨e1, e2, e3, e4, e5⟩ := HV.out
          rcases (show k = 0 ∨ k = 1 ∨ k = 2 by omega) with rfl | rfl | rfl
          · simp only [if_true] at e1 e2 e3 e4 e5
            subst e1 e2 e3 e4 e5
            go_wp2_with fail
            go_ret
            exact ⟨rfl, B12.out⟩
          · simp only [if_false, Nat.reduceEqDiff] at e1 e2 e3 e4 e5
            subst e1 e2 e3 e4 e5
            go_wp2_with fail
            go_ret
            exact ⟨rfl, B12.out⟩
          · simp only [if_false, Nat.reduceEqDiff] at e1 e2 e3 e4 e5
            subst e1 e2 e3 e4 e5
            go_wp2_with fail
            go_ret
            exact ⟨rfl, B12.out⟩
set_option maxRecDepth 100000 in
theorem opens {H : Type} {enc : TypeId × Value → H} {W : World} {base : Nat} {args : Array Value} {ds : List (DataW H)} {p : List MemPlace}
    (hval : ∀ (j : Nat) t v, Tryz.f5.params[j]? = some t → args[j]? = some v → Value.okWide Tryz.prog W .any base t v)
    (hA : DataW.TrodAll enc Tryz.prog W 0 (fun _ => true) true Tryz.f5.params.toList args.toList ds p) (hlt : ∀ x ∈ p, x.block < W.heap.size) (hk : Rows.uptoBulkAll ds ≤ 1048576) (hE : Env W) :
    Calls Tryz.prog 5 args W fun e W' => e = .returned (.bool true) ∧ Below W.heap.size W W' := by
  rw [Tryz.params5] at hA hval
  obtain ⟨v0, vs0, d0, ds0, p0, q0, hargs, rfl, rfl, h0, r0⟩ := trodAll_cons hA
  obtain ⟨rfl, rfl, rfl⟩ := trodAll_nil r0
  obtain rfl : args = #[v0] := Array.toList_inj.1 hargs
  obtain ⟨fuel, hf0⟩ := h0
  obtain ⟨z, rfl⟩ := okWide_int Tryz.underlying5 (hval 0 5 v0 rfl rfl)
  obtain ⟨z2, e2, _, w2⟩ := DataW.trod_int Tryz.underlying5 hf0
  have e3 : z = z2 := by simpa [Value.cells] using e2
  subst e3
  have hz := wf8 w2
  obtain ⟨x, rfl⟩ : ∃ x : Nat, z = (x : Int) := ⟨z.toNat, by omega⟩
  exact walk closes_all W hE x (by omega)
theorem witness_row (os : Os) {H : Type} (enc : TypeId × Value → H) :
    (Rows.OpenSpec.upto Rows.wireLimitsSpec).preRow enc Tryz.prog Tryz.f5 Rows.wireLimitsUptoRow.domain false Rows.wireLimitsUptoRow.laid ((startW os).forCall (fun _ _ => 0) ⟨#[], #[.int .u8 0], []⟩).memory #[.int .u8 0] := by
  have hw : (DataW.whole enc Tryz.prog ((startW os).forCall (fun _ _ => 0) ⟨#[], #[.int .u8 0], []⟩).memory Tryz.f5.params.toList Rows.wireLimitsSpec.vars false (#[.int .u8 0] : Array Value).toList 8).map (fun x => (x.1, x.2.1)) =
      some ([.lit (.int .u8 0)], []) := by kernel_rfl
  obtain ⟨⟨x1, x2, x3⟩, hx, hx1⟩ := Option.map_eq_some_iff.1 hw
  simp only [Prod.mk.injEq] at hx1
  obtain ⟨rfl, rfl⟩ := hx1
  exact OpenSpec.preRow_of_cond 8 hx (by kernel_rfl) (fun k hk => by cases hk; kernel_rfl) (by kernel_rfl) (door_met os _)
set_option maxRecDepth 100000 in
theorem lifted (os : Os) (started : os.Started) (H : Type) (enc : TypeId × Value → H) (F : Stop.Interp) :
    ReturnsInHanded {} Tryz.checked os 5 .any ((Rows.OpenSpec.upto Rows.wireLimitsSpec).preRow enc Tryz.prog Tryz.f5 Rows.wireLimitsUptoRow.domain false Rows.wireLimitsUptoRow.laid) (((Rows.OpenSpec.upto Rows.wireLimitsSpec).at F).post enc Tryz.prog Tryz.f5 false true false false) := by
  refine returnsInHanded_of_row (C := Tryz.checked) (s := Rows.OpenSpec.upto Rows.wireLimitsSpec) own started (by kernel_rfl) Tryz.func5
    (witness_row_atRef (enc := enc) (C := Tryz.checked) false (startW os) #[.int .u8 0] rfl (by kernel_rfl) (by kernel_rfl) (by kernel_rfl) (witness_row os enc)) ?_
  intro W base args ds gs before hval hW _ hcond _ hL hsh _
  have hk := hcond _ rfl
  refine law_calls (s := Rows.wireLimitsSpec) laidOut Tryz.underlying4 rfl (by rw [Tryz.params5]; exact of_decide_eq_true (by kernel_rfl)) rfl (fun ds h => by match ds, h with | [_], _ => rfl) hW ?_
  obtain ⟨rfl, p, hA, hlt⟩ := law_args rfl hW
  have hb : Rows.uptoBulkAll (ds ++ []) ≤ 1048576 := of_decide_eq_true hk
  rw [List.append_nil] at hb
  exact opens hval hA hlt hb (env_of hL hsh)

theorem saidUpto : Rows.WireLimitsUptoSaid :=
  OpenClaim.holds_of_cond 5 Tryz.f5 rfl rfl rfl rfl rfl rfl rfl ⟨rfl, rfl, rfl, rfl, rfl⟩ rfl rfl rfl rfl rfl (by kernel_rfl) Tryz.func5 (by kernel_rfl)
    (of_decide_eq_true (by kernel_rfl)) (by unfold Func.isWrapper; first | (rw [if_pos (by decide +kernel)]; kernel_rfl) | (rw [if_neg (by decide +kernel)]; exact ⟨rfl, rfl⟩))
    (fun os started H enc _ F => by rw [OpenClaim.pre_eq_preRow]; exact lifted os started H enc F)
theorem plain (f : FuncId) (fn : Func) (hf : Tryz.pinned.checked.prog.funcNamed "docket/docketlaw11.WireLimits" = some f) (hfn : Tryz.pinned.checked.prog.funcs[f]? = some fn) :
    true = Tryz.pinned.checked.prog.looks [] ∧ ∀ (j : Nat) t, fn.params[j]? = some t → Tryz.pinned.checked.prog.wantsStandIn t = false := by
  obtain rfl : f = 5 := Option.some.inj ((show Tryz.prog.funcNamed "docket/docketlaw11.WireLimits" = some 5 by kernel_rfl).symm.trans hf) |>.symm
  obtain rfl : fn = Tryz.f5 := (Option.some.inj (Tryz.func5.symm.trans hfn)).symm
  exact ⟨by kernel_rfl, fun j t ht => (of_decide_eq_true (p := ∀ t ∈ Tryz.f5.params.toList, Tryz.prog.wantsStandIn t = false) (by kernel_rfl)) t (Array.mem_toList_iff.2 (Array.mem_of_getElem? ht))⟩
theorem proved : Rows.WireLimitsUptoCardSaid :=
  Claim7.holds_tied_plain_at .later [] _ _ _ _ saidUpto (fun _ h => by cases h) (by kernel_rfl) (fun _ h => by cases h) wireLimitsUpto_row_tie rfl ⟨rfl, rfl⟩ (by kernel_rfl) rfl plain (by kernel_rfl)

end Go.Proofs.YtplfceainkeokaaGreatDoor.wireLimits
