/-
  space: the contracts of math/bits' three functions on bytes.
-/
import Derived.Test.YtaoldopkehbhkaaPg6
import Derived.Lib.BitFns
namespace Go.Proofs.Ytaoldopkehbhkaa
open Go.RowKit Go.Maps Wal

set_option maxRecDepth 100000 in
theorem ones_int (x : Int) (w : World) (h0 : 0 ≤ x) (h1 : x ≤ 255) : Calls Try.prog 47 #[.int .u8 x] w fun e w' => e = .returned (.int .i64 (Lib.onesCount x.toNat)) ∧ w' = w := by
  rw [← Lib.pop8_int x h0 h1]
  go_enter Try.func47, Try.ntmps47
  go_wp2
  go_ret
  exact ⟨by show Ending.returned (.int .i64 (wrap64 (Lib.pop8 x))) = _; unfold wrap64; rfl, rfl⟩
theorem ones_any (x : Nat) (w : World) (h : x < 256) : Calls Try.prog 47 #[.int .u8 (x : Int)] w fun e w' => e = .returned (.int .i64 (Lib.onesCount x : Nat)) ∧ w = w' :=
  (ones_int (x : Int) w (by omega) (by omega)).mono fun _ _ ⟨h1, h2⟩ => ⟨by rw [h1, Int.toNat_natCast], h2.symm⟩
set_option maxRecDepth 100000 in
theorem len8_int (x : Int) (w : World) (h0 : 0 ≤ x) (h1 : x ≤ 255) : Calls Try.prog 41 #[.int .u8 x] w fun e w' => e = .returned (.int .i64 (Lib.bitLen x.toNat)) ∧ w' = w := by
  rw [← Lib.len8_int x h0 h1]
  go_enter Try.func41, Try.ntmps41
  go_wp2
  go_ret
  exact ⟨by show Ending.returned (.int .i64 (wrap64 (Lib.len8 x))) = _; unfold wrap64; rfl, rfl⟩
theorem len8_any (x : Nat) (w : World) (h : x < 256) : Calls Try.prog 41 #[.int .u8 (x : Int)] w fun e w' => e = .returned (.int .i64 (Lib.bitLen x : Nat)) ∧ w = w' :=
  (len8_int (x : Int) w (by omega) (by omega)).mono fun _ _ ⟨h1, h2⟩ => ⟨by rw [h1, Int.toNat_natCast], h2.symm⟩
set_option maxRecDepth 100000 in
theorem ntz8_int (x : Int) (w : World) (h0 : 0 ≤ x) (h1 : x ≤ 255) : Calls Try.prog 42 #[.int .u8 x] w fun e w' => e = .returned (.int .i64 (Lib.trailingZeros8 x.toNat)) ∧ w' = w := by
  rw [← Lib.ntz8_int x h0 h1]
  go_enter Try.func42, Try.ntmps42
  go_wp2
  go_ret
  exact ⟨by show Ending.returned (.int .i64 (wrap64 (Lib.ntz8 x))) = _; unfold wrap64; rfl, rfl⟩
theorem ntz8_any (x : Nat) (w : World) (h : x < 256) : Calls Try.prog 42 #[.int .u8 (x : Int)] w fun e w' => e = .returned (.int .i64 (Lib.trailingZeros8 x : Nat)) ∧ w = w' :=
  (ntz8_int (x : Int) w (by omega) (by omega)).mono fun _ _ ⟨h1, h2⟩ => ⟨by rw [h1, Int.toNat_natCast], h2.symm⟩
end Go.Proofs.Ytaoldopkehbhkaa
