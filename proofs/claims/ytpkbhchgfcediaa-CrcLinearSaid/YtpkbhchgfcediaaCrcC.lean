/-
  The walks of crc.Table's Once, its fill and its sums.
-/
import Derived.Test.YtpkbhchgfcediaaCrcB
import Derived.Deep.RegionWith
import Derived.StillTailTactics
namespace Go.Proofs.Ytpkbhchgfcediaa
open Go.RowKit

set_option maxRecDepth 100000 in
set_option maxHeartbeats 400000 in
theorem fill_any (b : Nat) (s n : Int) (f : Nat → Nat) (w : World) (ht : Tab w b 0 s f n) :
    Calls Try.prog 16 #[.pointer (some ⟨b, 0, none⟩)] w fun e w' => e = .returned (.tuple #[]) ∧ Tab w' b 0 s f n ∧ Only b w w' ∧ ∀ i, i < 256 → w'.cell? ⟨b, 3 + i, none⟩ = some (.int .u32 ((Crc.Sn 8 i : Nat) : Int)) := by
  have HT := Lib.hid ht
  clear ht
  go_enter Try.func16, Try.ntmps16
  go_wp2
  go_loopw [3] (fun i wr => ∃ k : Nat, k ≤ 256 ∧ i = .int .i64 k ∧ Tab wr b 0 s f n ∧ Only b w wr ∧ ∀ i, i < k → wr.cell? ⟨b, 3 + i, none⟩ = some (.int .u32 ((Crc.Sn 8 i : Nat) : Int))) (fun i _ => 256 - (intOf i).toNat)
  case atStart => exact ⟨0, by omega, rfl, HT.out, Only.refl _ _, fun i hi => by omega⟩
  case round =>
    obtain ⟨k, hk, rfl, ht, ho, hs⟩ := hrel
    have HT1 := Lib.hid ht
    have HO := Lib.hid ho
    have HS := Lib.hid hs
    clear hs ho
    by_cases hlt : k < 256
    · obtain ⟨x, hx⟩ := ht.cf k hlt
      have hf := ht.fr (3 + k)
      clear ht
      have hkz : (0 : Int) ≤ (k : Int) := by omega
      have hk2 : (k : Int) < 256 := by omega
      have hw : IntKind.u32.wrap (k : Int) = (k : Int) := by rw [IntKind.wrap_u32]; omega
      go_wp2_with fail
      go_region_with (go_at_call 18; refine (shift_any _ (by omega) (by omega) _).mono ?_; rintro e w' ⟨rfl, rfl⟩)
      clear hw
      go_wp2
      go_roundw
      case rel =>
        refine ⟨k + 1, by omega, by go_num, (HT1.out.entry k hlt _).drew, (HO.out.set _ _).drew, fun i hi => ?_⟩
        rw [World.cell?_drew]
        by_cases e : i = k
        · subst e; exact World.cell?_setCell_same _ _ _ hx
        · exact (World.cell?_setCell_other _ _ _ _ (ne_off (by omega))).trans (HS.out i (by omega))
      case measure => simp [intOf]; omega
    · obtain rfl : k = 256 := by omega
      go_wp2
      go_end0
      exact ⟨rfl, HT1.out, HO.out, HS.out⟩

set_option maxRecDepth 100000 in
set_option maxHeartbeats 1600000 in
theorem slow_any (b : Nat) (n : Int) (f : Nat → Nat) (w : World) (ht : Tab w b 0 0 f n) :
    Calls Try.prog 21 #[.pointer (some ⟨b, 0, none⟩), .func (.func 16) #[.pointer (some ⟨b, 0, none⟩)] #[]] w fun e w' => e = .returned (.tuple #[]) ∧
      Tab w' b 1 0 (Crc.Sn 8) n ∧ Only b w w' := by
  have HT := Lib.hid ht
  have h1 := ht.c1
  have f1 := ht.fr 1
  have hl := run_call_load (P := Try.prog) Try.func23 (by kernel_rfl) (by kernel_rfl) (by kernel_rfl) .u32 (by kernel_rfl) (ht.state 1).c0
  have hnot : ∀ (x : Bool) (w : World), (Op.unary .not (.bool x)).run Try.prog w = .ok (.bool (!x)) w := fun _ _ => rfl
  clear ht
  go_enter_defers Try.func21, Try.ntmps21
  go_wp2_with (go_at_call 24; refine (lock_free ⟨b, 1, none⟩ _ (by go_simp) (by go_simp)).mono ?_; rintro e w' ⟨rfl, rfl⟩)
  go_wp2_with (first | (go_at_call 16; refine (fill_any b 1 n f _ (HT.out.state 1)).mono ?_; rintro e w' ⟨rfl, ht2, ho2, hs2⟩) | (go_at_call 20; go_in))
  refine leaves_cons (f := 26) (args := #[.pointer (some ⟨b, 0, none⟩), .bool true]) (by simp) (by simp [go_sem]) ?_
  refine (store_deferred ⟨b, 0, none⟩ _ .returning _ ht2.c0 (ht2.fr 0)).mono ?_
  rintro e u' w'' ⟨rfl, rfl, rfl⟩
  have HT3 := Lib.hid (ht2.drew.done 1 (Crc.Sn 8) (.inr hs2))
  refine leaves_cons (f := 25) (args := #[.pointer (some ⟨b, 1, none⟩)]) (by simp [settle]) (by simp [go_sem]) ?_
  refine (unlock_deferred ⟨b, 1, none⟩ _ _ HT3.out.c1 (HT3.out.fr 1)).mono ?_
  rintro e u' w'' ⟨rfl, rfl, rfl⟩
  have h4 : Tab _ b 1 0 (Crc.Sn 8) n := HT3.out.state 0
  have o4 := (((((Only.refl b w).set 1 (.int .i32 1)).trans ho2).drew).set 0 (.int .u32 1)).set 1 (.int .i32 0)
  simp [Leaves, settle, results, Try.results21]
  exact ⟨h4, o4⟩

set_option maxRecDepth 100000 in
set_option maxHeartbeats 1600000 in
/-- Do, the first time. -/
theorem do_first (b : Nat) (n : Int) (f : Nat → Nat) (w : World) (ht : Tab w b 0 0 f n) :
    Calls Try.prog 15 #[.pointer (some ⟨b, 0, none⟩), .func (.func 16) #[.pointer (some ⟨b, 0, none⟩)] #[]] w fun e w' => e = .returned (.tuple #[]) ∧
      Tab w' b 1 0 (Crc.Sn 8) n ∧ Only b w w' := by
  have HT := Lib.hid ht
  have hl := run_call_load (P := Try.prog) Try.func23 (by kernel_rfl) (by kernel_rfl) (by kernel_rfl) .u32 (by kernel_rfl) ht.c0
  have hnot : ∀ (x : Bool) (w : World), (Op.unary .not (.bool x)).run Try.prog w = .ok (.bool (!x)) w := fun _ _ => rfl
  clear ht
  go_enter Try.func15, Try.ntmps15
  go_wp2_with (first | (go_at_call 21; refine (slow_any b n f _ HT.out).mono ?_; rintro e w' ⟨rfl, ht2, ho2⟩) | (go_at_call 20; go_in))
  go_end0
  exact ⟨rfl, ht2, ho2⟩

/-- Do, done already. -/
theorem do_done (b : Nat) (fv : Value) (w : World) (h0 : w.cell? ⟨b, 0, none⟩ = some (.int .u32 1)) :
    Calls Try.prog 15 #[.pointer (some ⟨b, 0, none⟩), fv] w fun e w' => e = .returned (.tuple #[]) ∧ w' = w := by
  have hl := run_call_load (P := Try.prog) Try.func23 (by kernel_rfl) (by kernel_rfl) (by kernel_rfl) .u32 (by kernel_rfl) h0
  have hnot : ∀ (x : Bool) (w : World), (Op.unary .not (.bool x)).run Try.prog w = .ok (.bool (!x)) w := fun _ _ => rfl
  go_enter Try.func15, Try.ntmps15
  go_wp2
  go_end0
  exact ⟨rfl, rfl⟩

/-- The table is fresh, or it has been made. -/
def Fit (w : World) (b : Nat) (n : Int) : Prop := (∃ f, Tab w b 0 0 f n) ∨ Tab w b 1 0 (Crc.Sn 8) n

theorem do_any (b : Nat) (n : Int) (w : World) (ht : Fit w b n) :
    Calls Try.prog 15 #[.pointer (some ⟨b, 0, none⟩), .func (.func 16) #[.pointer (some ⟨b, 0, none⟩)] #[]] w fun e w' => e = .returned (.tuple #[]) ∧
      Tab w' b 1 0 (Crc.Sn 8) n ∧ Only b w w' := by
  rcases ht with ⟨f, ht⟩ | ht
  · exact do_first b n f w ht
  · refine (do_done b _ w ht.c0).mono ?_
    rintro e w' ⟨rfl, rfl⟩
    exact ⟨rfl, ht, Only.refl _ _⟩

/-- The count goes up by one. -/
theorem add_any (b : Nat) (n : Int) (h0 : 0 ≤ n) (h1 : n < 4611686018427387904) (w : World) (hc : w.cell? ⟨b, 259, none⟩ = some (.int .i64 n)) (hz : w.frozen? ⟨b, 259, none⟩ = false) :
    Calls Try.prog 14 #[.pointer (some ⟨b, 259, none⟩), .int .i64 1] w fun e w' => (∃ v, e = .returned v) ∧ w' = w.setCell ⟨b, 259, none⟩ (.int .i64 (n + 1)) := by
  have hadd := run_call_add (P := Try.prog) Try.func19 (by kernel_rfl) (by kernel_rfl) (by kernel_rfl) .i64 (by kernel_rfl) (y := 1) (s := n + 1) hc hz (by simp [go_sem, IntKind.wrap_i64]; omega)
  go_enter Try.func14, Try.ntmps14
  go_wp2
  go_ret
  exact ⟨⟨_, rfl⟩, rfl⟩
end Go.Proofs.Ytpkbhchgfcediaa
