/-
  The walk of the answers that the document fixes: true, and nothing that was there is written.
-/
import Derived.Test.YtpkbhchgfcediaaCrcD
import Derived.Outline
import Derived.Laws.NewBlocks
import Derived.Lib.SlBytesConst
namespace Go.Proofs.Ytpkbhchgfcediaa
open Go.RowKit

def zeroTab : Array Value := #[.int .u32 0, .int .i32 0, .int .u32 0] ++ Array.replicate 256 (.int .u32 0) ++ #[.int .i64 0]
theorem zero_tab (w : World) : (zeroValue 42).run Try.prog w = .ok (.agg zeroTab) w := by kernel_rfl
theorem box_tab (w : World) : (Instr.box 42 (.agg zeroTab)).run Try.prog w = .ok (.pointer (some ⟨w.heap.size, 0, none⟩)) (w.alloc (.cells zeroTab 42)) := by kernel_rfl

theorem tab_new (w : World) : Tab (w.alloc (.cells zeroTab 42)) w.heap.size 0 0 (fun _ => 0) 0 where
  c0 := by rw [World.cell?_alloc_new]; kernel_rfl
  c1 := by rw [World.cell?_alloc_new]; kernel_rfl
  cf := fun i hi => by
    rw [World.cell?_alloc_new]
    have hs : zeroTab.size = 260 := by decide +kernel
    exact ⟨zeroTab[3 + i]'(by omega), Array.getElem?_eq_getElem _⟩
  ce := .inl rfl
  cn := by rw [World.cell?_alloc_new]; kernel_rfl
  fr := fun o => World.frozen?_alloc_new _ _ _ _
  lt := by simp

theorem Tab.alloc {w : World} {b : Nat} {d s n : Int} {f : Nat → Nat} (h : Tab w b d s f n) (o : Obj) : Tab (w.alloc o) b d s f n where
  c0 := (World.cell?_alloc_past _ _ _ h.lt).trans h.c0
  c1 := (World.cell?_alloc_past _ _ _ h.lt).trans h.c1
  cf := fun i hi => by obtain ⟨x, hx⟩ := h.cf i hi; exact ⟨x, (World.cell?_alloc_past _ _ _ h.lt).trans hx⟩
  ce := h.ce.imp id fun g i hi => (World.cell?_alloc_past _ _ _ h.lt).trans (g i hi)
  cn := (World.cell?_alloc_past _ _ _ h.lt).trans h.cn
  fr := fun j => (World.frozen?_alloc_past _ _ _ h.lt).trans (h.fr j)
  lt := by have := h.lt; simp; omega

theorem Fit.alloc {w : World} {b : Nat} {n : Int} (h : Fit w b n) (o : Obj) : Fit (w.alloc o) b n := by
  rcases h with ⟨f, h⟩ | h
  · exact .inl ⟨f, h.alloc o⟩
  · exact .inr (h.alloc o)

/-- A row of bytes that has just been laid. -/
theorem bts_new (w : World) (l : List Nat) (h8 : ∀ x ∈ l, x < 256) (n : Nat) (hn : l.length = n) (C : Array Value) (hC : C = (l.map fun x => Value.int .u8 ((x : Nat) : Int)).toArray) (e : TypeId) (m : Nat × Nat) (b : Nat) (hb : b = w.heap.size) :
    Bts (w.alloc (.cells C e m)) (some ⟨b, 0, none⟩) n l := by
  subst hb
  refine ⟨hn, h8, fun _ => ⟨_, 0, rfl, by simp, fun i hi => ?_⟩⟩
  rw [Nat.zero_add]
  rw [World.cell?_alloc_mark, hC, List.getElem?_toArray, List.getElem?_map, List.getElem?_eq_getElem (by omega), List.getD_eq_getElem?_getD, List.getElem?_eq_getElem (by omega)]
  rfl
theorem Bts.alloc {w : World} {A : Option Addr} {n : Nat} {l : List Nat} (h : Bts w A n l) (o : Obj) : Bts (w.alloc o) A n l :=
  ⟨h.1, h.2.1, fun hn => by
    obtain ⟨b, off, e, hb, hc⟩ := h.2.2 hn
    exact ⟨b, off, e, by simp; omega, fun i hi => (World.cell?_alloc_past _ _ _ hb).trans (hc i hi)⟩⟩

theorem conv_new (w : World) (b : Nat) (C : Array Value) (n c : Nat) (hb : b = w.heap.size) : (convert 44 44 (.slice (some ⟨b, 0, none⟩) n c)).run Try.prog (w.alloc (.cells C 5)) = .ok (.slice (some ⟨b, 0, none⟩) n c) (w.alloc (.cells C 5 (C.size, C.size + 1))) := by
  subst hb
  exact Lib.run_convert_bytes_const w 44 5 C n c Try.underlying44 Try.underlying5

set_option maxHeartbeats 400000 in
theorem fixed_any (w : World) :
    Calls Try.prog 8 #[] w fun e w' => e = .returned (.bool true) ∧ Below w.heap.size w w' := by
  have hz := zero_tab
  have hx := box_tab
  have kc := conv_new
  go_enter Try.func8, Try.ntmps8
  go_wp2_with fail
  refine (sum_any _ 9 _ [49, 50, 51, 52, 53, 54, 55, 56, 57] _ (by omega) (bts_new _ _ (by decide) _ rfl _ (by simp) _ _ _ (by simp))).mono ?_
  rintro e w1 ⟨rfl, rfl⟩
  have e1 : Crc.sum [49, 50, 51, 52, 53, 54, 55, 56, 57] = 3808858755 := by decide +kernel
  rw [e1]
  clear e1
  go_wp2_with fail
  refine (tab_sum w.heap.size 0 (by omega) (by omega) _ 1 _ [0] _ (by omega) (bts_new _ _ (by decide) _ rfl _ (by simp) _ _ _ (by simp)) (fun _ x hx => by injection hx with hx; subst hx; show w.heap.size + 1 + 1 ≠ w.heap.size; omega) (Fit.alloc (Fit.alloc (.inl ⟨_, tab_new w⟩) _) _)).mono ?_
  rintro e w1 ⟨rfl, _, ho⟩
  have e1 : Crc.sum [0] = 1383945041 := by decide +kernel
  rw [e1]
  clear e1
  have bel : Below w.heap.size w w1 := ((((Below.refl _ _).alloc (Nat.le_refl _) _).alloc (by simp) _).alloc (by simp; omega) _).trans (ho.below (Nat.le_refl _))
  clear ho
  go_wp2_with fail
  refine (sum_any _ 4 _ [49, 50, 51, 52] _ (by omega) (bts_new _ _ (by decide) _ rfl _ (by simp) _ _ _ (by simp))).mono ?_
  rintro e w2 ⟨rfl, rfl⟩
  have e1 : Crc.sum [49, 50, 51, 52] < 4294967296 := by decide +kernel
  have e2 : Crc.upd (Crc.sum [49, 50, 51, 52]) [53, 54, 55, 56, 57] = 3808858755 := by decide +kernel
  generalize Crc.sum [49, 50, 51, 52] = q at *
  have E2 := Lib.hid e2
  clear e2
  go_wp2_with fail
  refine (update_any _ (by omega) (by omega) _ 5 _ [53, 54, 55, 56, 57] _ (by omega) (bts_new _ _ (by decide) _ rfl _ (by simp) _ _ _ (by simp))).mono ?_
  rintro e w2 ⟨rfl, rfl⟩
  rw [Int.toNat_natCast, E2.out]
  go_wp2_with fail
  go_ret
  refine ⟨rfl, (bel.alloc bel.size _).alloc ?_ _⟩
  have := bel.size
  simp
  omega
end Go.Proofs.Ytpkbhchgfcediaa
