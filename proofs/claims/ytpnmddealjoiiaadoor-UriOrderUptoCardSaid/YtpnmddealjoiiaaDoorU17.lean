/-
  uri: strconv.ParseUint of two digits of base 16.
-/
import Derived.Test.YtpnmddealjoiiaaDoorU16
import Derived.Lib.ConvBytes
import Derived.Lib.AtoiErrMem
import Derived.Shelf.Strconv.ParseUint10
namespace Go.Proofs.YtpnmddealjoiiaaDoor
open Go.RowKit Uri

/-- Two digits of base 16, or not. -/
def two (a b : Nat) : Option Nat := match hex a, hex b with
  | some x, some y => some (x * 16 + y)
  | _, _ => none
theorem or32 : ∀ c : Fin 256, 0 ≤ bits .or .u8 (c.val : Int) 32 ∧ bits .or .u8 (c.val : Int) 32 < 256 ∧ (97 ≤ c.val ∧ c.val ≤ 102 → bits .or .u8 (c.val : Int) 32 = c.val) ∧ (65 ≤ c.val ∧ c.val ≤ 70 → bits .or .u8 (c.val : Int) 32 = c.val + 32) ∧
    (hex c.val = none → bits .or .u8 (c.val : Int) 32 < 97 ∨ 103 ≤ bits .or .u8 (c.val : Int) 32) := by decide +kernel
/-- What has been read of two bytes when k of them have come. -/
def HexAt (a b k : Nat) (z : Int) : Prop := (k = 0 → z = 0) ∧ (k = 1 → ∃ x, hex a = some x ∧ z = (x : Int)) ∧ (k = 2 → ∃ x, two a b = some x ∧ z = (x : Int)) ∧ 0 ≤ z ∧ (k = 1 → z < 16) ∧ z < 256
theorem HexAt.next0 {a b x : Nat} {z : Int} (h : HexAt a b 0 z) (ha : hex a = some x) : HexAt a b 1 (z * 16 + (x : Int)) := by
  have h0 := h.1 rfl
  have hx := hex_lt ha
  exact ⟨fun h => by omega, fun _ => ⟨x, ha, by omega⟩, fun h => by omega, by omega, fun _ => by omega, by omega⟩
theorem HexAt.next1 {a b y : Nat} {z : Int} (h : HexAt a b 1 z) (hb : hex b = some y) : HexAt a b 2 (z * 16 + (y : Int)) := by
  obtain ⟨x, hx, hz⟩ := h.2.1 rfl
  have hy := hex_lt hb
  have hx' := hex_lt hx
  refine ⟨fun h => by omega, fun h => by omega, fun _ => ⟨x * 16 + y, ?_, by omega⟩, by omega, fun h => by omega, by omega⟩
  unfold two
  rw [hx, hb]
theorem two_bad {a b : Nat} (h : hex a = none ∨ hex b = none) : two a b = none := by
  unfold two
  rcases h with h | h
  · rw [h]
  · rw [h]; cases hex a <;> rfl
/-- What ParseUint answers of two bytes. -/
def HexE (a b : Nat) (e : Ending) : Prop := (∀ x, two a b = some x → e = .returned (.tuple #[.int .u64 (x : Int), .nilIface])) ∧ (two a b = none → e = .returned (.tuple #[.int .u64 0, .iface 94 (.int .i64 2)]))
theorem HexE.bad {a b : Nat} (h : two a b = none) : HexE a b (.returned (.tuple #[.int .u64 0, .iface 94 (.int .i64 2)])) := ⟨fun x hx => (by rw [h] at hx; cases hx), fun _ => rfl⟩
theorem HexE.good {a b x : Nat} (h : two a b = some x) {z : Int} (hz : z = (x : Int)) : HexE a b (.returned (.tuple #[.int .u64 z, .nilIface])) := ⟨fun y hy => (by rw [h] at hy; injection hy with hy; rw [hz, hy]), fun hn => (by rw [h] at hn; cases hn)⟩
set_option maxHeartbeats 6400000 in
set_option maxRecDepth 100000 in
theorem ipu_any (w : World) (t : ByteArray) (a b : Nat) (ht : nums t = [a, b]) :
    Calls Tryd.prog 64 #[.string t, .int .i64 16, .int .i64 8] w fun e w' => HexE a b e ∧ Below w.heap.size w w' := by
  have hs : t.size = 2 := by rw [← nums_length, ht]; rfl
  have hemp : t.toList.isEmpty = false := by rw [isEmpty_nums, ht]; rfl
  have hcv := Lib.run_convert_string_bytes (P := Tryd.prog) w 9 35 5 t (u := .string) Tryd.underlying9 Tryd.underlying35 Tryd.underlying5
  have hB : ∀ j, j < 2 → (Lib.bytesWorld w 5 t).cell? ⟨w.heap.size, j, none⟩ = some (.int .u8 (([a, b].getD j 0 : Nat) : Int)) := fun j hj => by
    rw [Lib.bytesWorld_cell w 5 t j (by omega)]
    have e : (t.data.toList.getD j 0).toNat = (nums t).getD j 0 := by
      unfold nums
      simp only [List.getD_eq_getElem?_getD, List.getElem?_map]
      cases t.data.toList[j]? <;> rfl
    rw [e, ht]
  have BW : Hid (Below w.heap.size w (Lib.bytesWorld w 5 t)) := Lib.bytesWorld_below w _ t
  obtain ⟨W1, hW1⟩ : ∃ W1, W1 = Lib.bytesWorld w 5 t := ⟨_, rfl⟩
  rw [← hW1] at hcv hB BW
  have HB := Lib.hid hB
  have A8 : Hid (a < 256 ∧ b < 256) := ⟨nums_lt t a (by rw [ht]; simp), nums_lt t b (by rw [ht]; simp)⟩
  clear hW1 hB ht
  have hmv : IntKind.u64.wrap (IntKind.u64.wrap 256 - 1) = 255 := by
    rw [IntKind.wrap_u64, IntKind.wrap_u64]
    decide
  go_enter Tryd.func64, Tryd.ntmps64
  go_wp2_with fail
  go_loop [12, 13, 101] (fun vu vn vi => ∃ (k : Nat) (z : Int), vu = .bool false ∧ vn = .int .u64 z ∧ vi = .int .i64 k ∧ k ≤ 2 ∧ Hid (HexAt a b k z)) (fun _ _ vi => 2 - (intOf vi).toNat)
  case atStart => exact ⟨0, 0, rfl, rfl, rfl, by omega, ⟨fun _ => rfl, fun h => by omega, fun h => by omega, by omega, fun h => by omega, by omega⟩⟩
  case round =>
    obtain ⟨k, z, rfl, rfl, rfl, hk, HZ⟩ := hrel
    have z0 : 0 ≤ z := HZ.out.2.2.2.1
    have z1 : z < 256 := HZ.out.2.2.2.2.2
    have zc : z < 1152921504606846976 := by omega
    by_cases hk2 : k < 2
    · have z16 : z < 16 := by
        rcases Nat.eq_zero_or_pos k with h | h
        · have := HZ.out.1 h; omega
        · exact HZ.out.2.2.2.2.1 (by omega)
      have hc := HB.out k hk2
      obtain ⟨c, hcc⟩ : ∃ c, c = [a, b].getD k 0 := ⟨_, rfl⟩
      rw [← hcc] at hc
      have hc8 : c < 256 := by
        have : k = 0 ∨ k = 1 := by omega
        rcases this with rfl | rfl
        · rw [hcc]; exact A8.out.1
        · rw [hcc]; exact A8.out.2
      have O := or32 ⟨c, hc8⟩
      simp only at O
      have KB : Hid (hex c = none → two a b = none) := fun h => by
        have : k = 0 ∨ k = 1 := by omega
        rcases this with rfl | rfl
        · exact two_bad (.inl (by rw [hcc] at h; exact h))
        · exact two_bad (.inr (by rw [hcc] at h; exact h))
      have KN : Hid (∀ x, hex c = some x → HexAt a b (k + 1) (z * 16 + (x : Int))) := fun x hx => by
        have : k = 0 ∨ k = 1 := by omega
        rcases this with rfl | rfl
        · exact HZ.out.next0 (by rw [hcc] at hx; exact hx)
        · exact HZ.out.next1 (by rw [hcc] at hx; exact hx)
      have LO := Lib.hid (fun u => Tryd.internal_strconv_lower (c : Int) u)
      obtain ⟨v, hv⟩ : ∃ v, v = bits .or .u8 (c : Int) 32 := ⟨_, rfl⟩
      rw [← hv] at LO O
      obtain ⟨o0, o1, o2, o3, o4⟩ := O
      have e95 : c ≠ 95 → ((c : Int) == 95) = false := fun h => by rw [beq_eq_false_iff_ne]; omega
      clear hcc HB
      by_cases hdig : 48 ≤ c ∧ c ≤ 57
      · have hx : hex c = some (c - 48) := by unfold hex; rw [if_pos hdig]
        have N := Lib.hid (KN.out _ hx)
        have q0 := e95 (by omega)
        have q1 : (48 : Int) ≤ (c : Int) := by omega
        have q2 : (c : Int) ≤ 57 := by omega
        have q3 : ((c - 48 : Nat) : Int) = (c : Int) - 48 := by omega
        have q4 : ¬ (16 : Int) ≤ (c : Int) - 48 := by omega
        have q5 : z * 16 + ((c : Int) - 48) ≤ 255 := by omega
        have q6 : z * 16 ≤ z * 16 + ((c : Int) - 48) := by omega
        rw [q3] at N
        clear hx KB KN o0 o1 o2 o3 o4 hv e95 hdig q3
        go_wp2_with fail
        go_round
        case rel => exact ⟨k + 1, _, rfl, rfl, by go_num, by omega, N⟩
        case measure => simp [intOf]; omega
      · have hnd : ¬ (48 ≤ c ∧ c ≤ 57) := hdig
        by_cases hl : 97 ≤ c ∧ c ≤ 102
        · have hx : hex c = some (c - 87) := by unfold hex; rw [if_neg hdig, if_pos hl]
          have N := Lib.hid (KN.out _ hx)
          have ev : v = (c : Int) := o2 hl
          have q0 := e95 (by omega)
          have q1 : (48 : Int) ≤ (c : Int) := by omega
          have q2 : ¬ (c : Int) ≤ 57 := by omega
          have q3 : ((c - 87 : Nat) : Int) = v - 97 + 10 := by omega
          have q4 : (97 : Int) ≤ v := by omega
          have q5 : v ≤ 122 := by omega
          have q6 : ¬ (16 : Int) ≤ v - 97 + 10 := by omega
          have q7 : z * 16 + (v - 97 + 10) ≤ 255 := by omega
          have q8 : z * 16 ≤ z * 16 + (v - 97 + 10) := by omega
          rw [q3] at N
          clear hx KB KN o2 o3 o4 hv e95 hdig hl q3 ev
          go_wp2_with (go_at_call 73; refine (LO.out _).mono ?_; rintro e w' ⟨rfl, hw⟩; rw [hw])
          go_round
          case rel => exact ⟨k + 1, _, rfl, rfl, by go_num, by omega, N⟩
          case measure => simp [intOf]; omega
        · by_cases hu : 65 ≤ c ∧ c ≤ 70
          · have hx : hex c = some (c - 55) := by unfold hex; rw [if_neg hdig, if_neg hl, if_pos hu]
            have N := Lib.hid (KN.out _ hx)
            have ev : v = (c : Int) + 32 := o3 hu
            have q0 := e95 (by omega)
            have q1 : (48 : Int) ≤ (c : Int) := by omega
            have q2 : ¬ (c : Int) ≤ 57 := by omega
            have q3 : ((c - 55 : Nat) : Int) = v - 97 + 10 := by omega
            have q4 : (97 : Int) ≤ v := by omega
            have q5 : v ≤ 122 := by omega
            have q6 : ¬ (16 : Int) ≤ v - 97 + 10 := by omega
            have q7 : z * 16 + (v - 97 + 10) ≤ 255 := by omega
            have q8 : z * 16 ≤ z * 16 + (v - 97 + 10) := by omega
            rw [q3] at N
            clear hx KB KN o2 o3 o4 hv e95 hdig hl hu q3 ev
            go_wp2_with (go_at_call 73; refine (LO.out _).mono ?_; rintro e w' ⟨rfl, hw⟩; rw [hw])
            go_round
            case rel => exact ⟨k + 1, _, rfl, rfl, by go_num, by omega, N⟩
            case measure => simp [intOf]; omega

          · have hx : hex c = none := by unfold hex; rw [if_neg hdig, if_neg hl, if_neg hu]
            have N := Lib.hid (KB.out hx)
            have o5 := o4 hx
            clear hx KB KN o2 o3 o4 hv
            have q9 : ((48 : Int) ≤ (c : Int) ∧ (c : Int) ≤ 57) = False := by rw [eq_iff_iff, iff_false]; omega
            by_cases g95 : c = 95
            · have e := g95
              have q0 : ((c : Int) == 95) = true := by rw [beq_iff_eq]; omega
              have q1 : (48 : Int) ≤ (c : Int) := by omega
              have q2 : ¬ (c : Int) ≤ 57 := by omega
              by_cases g1 : v < 97
              · have r1 : ¬ (97 : Int) ≤ v := by omega
                clear e95 hdig hl hu g95 e q9 hnd
                go_wp2_with (go_at_call 73; refine (LO.out _).mono ?_; rintro e w' ⟨rfl, hw⟩; rw [hw])
                go_ret2
                exact ⟨HexE.bad N.out, BW.out⟩
              · have r1 : (97 : Int) ≤ v := by omega
                by_cases g2 : v ≤ 122
                · have r2 : (16 : Int) ≤ v - 97 + 10 := by omega
                  clear e95 hdig hl hu g95 e q9 hnd o5
                  go_wp2_with (go_at_call 73; refine (LO.out _).mono ?_; rintro e w' ⟨rfl, hw⟩; rw [hw])
                  go_ret2
                  exact ⟨HexE.bad N.out, BW.out⟩
                · clear e95 hdig hl hu g95 e q9 hnd
                  go_wp2_with (go_at_call 73; refine (LO.out _).mono ?_; rintro e w' ⟨rfl, hw⟩; rw [hw])
                  go_ret2
                  exact ⟨HexE.bad N.out, BW.out⟩
            · have q0 := e95 g95
              by_cases h48 : 48 ≤ c
              · have q1 : (48 : Int) ≤ (c : Int) := by omega
                have q2 : ¬ (c : Int) ≤ 57 := by omega
                by_cases g1 : v < 97
                · have r1 : ¬ (97 : Int) ≤ v := by omega
                  clear e95 hdig hl hu g95 q9 hnd h48
                  go_wp2_with (go_at_call 73; refine (LO.out _).mono ?_; rintro e w' ⟨rfl, hw⟩; rw [hw])
                  go_ret2
                  exact ⟨HexE.bad N.out, BW.out⟩
                · have r1 : (97 : Int) ≤ v := by omega
                  by_cases g2 : v ≤ 122
                  · have r2 : (16 : Int) ≤ v - 97 + 10 := by omega
                    clear e95 hdig hl hu g95 q9 hnd h48 o5
                    go_wp2_with (go_at_call 73; refine (LO.out _).mono ?_; rintro e w' ⟨rfl, hw⟩; rw [hw])
                    go_ret2
                    exact ⟨HexE.bad N.out, BW.out⟩
                  · clear e95 hdig hl hu g95 q9 hnd h48
                    go_wp2_with (go_at_call 73; refine (LO.out _).mono ?_; rintro e w' ⟨rfl, hw⟩; rw [hw])
                    go_ret2
                    exact ⟨HexE.bad N.out, BW.out⟩
              · have q1 : ¬ (48 : Int) ≤ (c : Int) := by omega
                by_cases g1 : v < 97
                · have r1 : ¬ (97 : Int) ≤ v := by omega
                  clear e95 hdig hl hu g95 q9 hnd h48
                  go_wp2_with (go_at_call 73; refine (LO.out _).mono ?_; rintro e w' ⟨rfl, hw⟩; rw [hw])
                  go_ret2
                  exact ⟨HexE.bad N.out, BW.out⟩
                · have r1 : (97 : Int) ≤ v := by omega
                  by_cases g2 : v ≤ 122
                  · have r2 : (16 : Int) ≤ v - 97 + 10 := by omega
                    clear e95 hdig hl hu g95 q9 hnd h48 o5
                    go_wp2_with (go_at_call 73; refine (LO.out _).mono ?_; rintro e w' ⟨rfl, hw⟩; rw [hw])
                    go_ret2
                    exact ⟨HexE.bad N.out, BW.out⟩
                  · clear e95 hdig hl hu g95 q9 hnd h48
                    go_wp2_with (go_at_call 73; refine (LO.out _).mono ?_; rintro e w' ⟨rfl, hw⟩; rw [hw])
                    go_ret2
                    exact ⟨HexE.bad N.out, BW.out⟩
    · obtain rfl : k = 2 := by omega
      obtain ⟨x, hx, hz⟩ := HZ.out.2.2.1 rfl
      have HX := Lib.hid hx
      have HZ2 := Lib.hid hz
      clear hx hz HB
      go_wp2_with fail
      go_ret2
      exact ⟨HexE.good HX.out HZ2.out, BW.out⟩
end Go.Proofs.YtpnmddealjoiiaaDoor
