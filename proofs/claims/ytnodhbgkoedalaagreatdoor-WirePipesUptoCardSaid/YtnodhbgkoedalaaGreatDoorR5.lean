/-
  reply: what the document's Digits answers.
-/
import Derived.Test.YtnodhbgkoedalaaGreatDoorR4
namespace Go.Proofs.YtnodhbgkoedalaaGreatDoor
open Go.RowKit Reply

theorem one_bts (w : World) (x : Nat) (h8 : x < 256) (e : TypeId) (m : Nat × Nat) (b : Nat) (hb : b = w.heap.size) : Bts (w.alloc (.cells #[.int .u8 (x : Int)] e m)) (some ⟨b, 0, none⟩) 1 [x] := by
  subst hb
  refine ⟨rfl, fun y hy => by have : y = x := by simpa using hy
                              omega, fun _ => ⟨_, 0, rfl, by simp, fun i hi => ?_⟩⟩
  obtain rfl : i = 0 := by omega
  rw [Nat.zero_add, World.cell?_alloc_mark]
  rfl
theorem strB_dig {d : Nat} (h : d < 10) : strB [48 + d] = S [UInt8.ofNat (48 + d)] := by
  rw [← strB_map, List.map_singleton, dig_nat h]
theorem dec_more {m : Nat} (h : ¬ m / 10 = 0) : Lib.decDigits m = Lib.decDigits (m / 10) ++ [UInt8.ofNat (48 + m % 10)] := by
  conv => lhs; rw [Lib.decDigits]
  rw [dif_neg (by omega)]
theorem dec_last {m : Nat} (h : m / 10 = 0) : Lib.decDigits m = [UInt8.ofNat (48 + m % 10)] := by
  rw [Lib.decDigits, dif_pos (by omega), Nat.mod_eq_of_lt (by omega)]
end Go.Proofs.YtnodhbgkoedalaaGreatDoor
