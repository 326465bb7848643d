/-
  reply: what the document's Digits answers.
-/
import Derived.Test.YtdojchamdcokiaaGreatDoorR4
namespace Go.Proofs.YtdojchamdcokiaaGreatDoor
open Go.RowKit Reply

theorem one_bts (w : World) (x : Nat) (h8 : x < 256) (e : TypeId) (m : Nat × Nat) (b : Nat) (hb : b = w.heap.size) : Bts (w.alloc (.cells #[.int .u8 (x : Int)] e m)) (some ⟨b, 0, none⟩) 1 [x] := by
  subst hb
  refine ⟨rfl, fun y hy => by have : y = x := by simpa using hy
                              omega, fun _ => ⟨_, 0, rfl, by simp, fun i hi => ?_⟩⟩
  obtain rfl : i = 0 := by omega
  rw [Nat.zero_add, World.cell?_alloc_mark]
  rfl
theorem strB_dig {d : Nat} (h : d < 10) : strB [48 + d] = S [UInt8.ofNat (48 + d)] := by
  rw [← strB_map, List.map_singleton, dig_nat h]
theorem dec_more {m : Nat} (h : ¬ m / 10 = 0) : Lib.decDigits m = Lib.decDigits (m / 10) ++ [UInt8.ofNat (48 + m % 10)] := by
  conv => lhs; rw [Lib.decDigits]
  rw [dif_neg (by omega)]
theorem dec_last {m : Nat} (h : m / 10 = 0) : Lib.decDigits m = [UInt8.ofNat (48 + m % 10)] := by
  rw [Lib.decDigits, dif_pos (by omega), Nat.mod_eq_of_lt (by omega)]
set_option maxRecDepth 100000 in
set_option maxHeartbeats 4000000 in
theorem digits_any (w : World) (N : Nat) (hN : N ≤ 4294967296) :
    Calls Tryz.prog 32 #[.int .i64 (N : Int)] w fun e w' => e = .returned (.string (S (Lib.decDigits N))) ∧ Below w.heap.size w w' := by
  have HN := Lib.hid hN
  clear hN
  go_enter Tryz.func32, Tryz.ntmps32
  go_wp2
  go_loopw [0, 3] (fun n v wr => ∃ (m : Nat) (t : B), n = .int .i64 (m : Int) ∧ v = .string (S t) ∧ m ≤ 4294967296 ∧ t.length + m ≤ 4294967296 ∧ Hid (Lib.decDigits N = Lib.decDigits m ++ t) ∧ Hid (Below w.heap.size w wr)) (fun n _ _ => (intOf n).toNat)
  case atStart => exact ⟨N, [], rfl, rfl, HN.out, by simpa using HN.out, by show _ = _; rw [List.append_nil], Below.refl _ _⟩
  case round =>
    obtain ⟨m, t, rfl, rfl, hm, ht, HD, HB⟩ := hrel
    obtain ⟨d, hd⟩ : ∃ d, d = m % 10 := ⟨_, rfl⟩
    obtain ⟨q, hq⟩ : ∃ q, q = m / 10 := ⟨_, rfl⟩
    have hd10 : d < 10 := by omega
    have hqb : q ≤ 4294967296 := by omega
    have hr : (m : Int) % 10 = (d : Int) := by omega
    have hr2 : Int.tmod (m : Int) 10 = (d : Int) := by rw [Int.tmod_eq_emod_of_nonneg (by omega)]; exact hr
    have hv : (m : Int) / 10 = (q : Int) := by omega
    have hv2 : Int.tdiv (m : Int) 10 = (q : Int) := by rw [Int.tdiv_eq_ediv_of_nonneg (by omega)]; exact hv
    have CV := (one_bts wr (48 + d) (by omega) 5 (0, 0) _ rfl).toStr byteT (ts := 9) Tryz.underlying9 1
    rw [strB_dig hd10, show ((48 + d : Nat) : Int) = 48 + (d : Int) by omega] at CV
    have HS : Hid (S [UInt8.ofNat (48 + d)] ++ S t = S (UInt8.ofNat (48 + d) :: t)) := S_append _ _
    obtain ⟨u, hu⟩ : ∃ u, u = S [UInt8.ofNat (48 + d)] := ⟨_, rfl⟩
    have hus : u.size = 1 := by rw [hu, S_size]; rfl
    obtain ⟨y, hy⟩ : ∃ y, y = S t := ⟨_, rfl⟩
    have hys : y.size ≤ 4294967296 := by rw [hy, S_size]; omega
    rw [← hu] at CV HS
    rw [← hy] at HS ⊢
    have hsum : ¬ 9223372036854775807 < u.size + y.size := by omega
    have B1 : Hid (Below w.heap.size w (wr.alloc (.cells #[.int .u8 (48 + (d : Int))] 5))) := HB.out.alloc HB.out.size _
    have HU := Lib.hid hu
    clear hu hus hy hr hv
    by_cases hz : q = 0
    · have F : Hid (Lib.decDigits N = UInt8.ofNat (48 + d) :: t) := by show _ = _; rw [HD.out, dec_last (by omega), hd]; rfl
      have hz1 : ((q : Int) == 0) = true := by rw [hz]; rfl
      clear hz hd hq
      go_wp2
      go_ret
      exact ⟨ret_str (by rw [F.out, HS.out]), B1.out⟩
    · have F : Hid (Lib.decDigits N = Lib.decDigits q ++ (UInt8.ofNat (48 + d) :: t)) := by show _ = _; rw [HD.out, dec_more (by omega), hd, hq, List.append_assoc]; rfl
      have hz1 : ((q : Int) == 0) = false := by rw [beq_eq_false_iff_ne]; omega
      have hlt : q + 1 ≤ m := by omega
      clear hz hd hq
      go_wp2
      go_roundw
      case rel => exact ⟨q, UInt8.ofNat (48 + d) :: t, rfl, by rw [HS.out], by omega, by simp; omega, F, B1⟩
      case measure => simp [intOf]; omega
end Go.Proofs.YtdojchamdcokiaaGreatDoor
