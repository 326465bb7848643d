/-
  The walks of package crc's plain functions: shiftByte is eight shifts; Update and Sum are the register over the bytes, the world as it was; the document's own sum likewise. · A crc.Table that lies inside another object, from its cell 8 on: its Once, its count, its table of 256 entries: whatever was summed before, Sum is the register over the bytes; nothing is written but the cells of the block from 8 on.
-/
import Derived.Test.YtkajneeihhobhaaGreatRows
import Derived.Test.YtkajneeihhobhaaGreatMMath
import Derived.Test.YtkajneeihhobhaaGreatMBase
import Derived.WalkKit
import Derived.WalkSpells
import Derived.Lib.Hide
import Derived.Outline
import Derived.Laws.BitsAllLaws
import Derived.Tactics
import Derived.Tactics2
import Derived.Defers
import Derived.Laws.Pointers
import Derived.Laws.LoneSync
import Derived.RegionTactic
import Derived.RegionCalls
import Derived.ChangeAlike
import Derived.Below
import Derived.Deep.RegionWith
import Derived.StillTailTactics
import Derived.IntWalk
namespace Go.Proofs.YtkajneeihhobhaaGreat
open Go.RowKit

theorem ret_u32 {a b : Nat} (h : a = b) : Ending.returned (.int .u32 (a : Int)) = .returned (.int .u32 (b : Int)) := by rw [h]
theorem val_u32 {x : Int} {b : Nat} (h : x = (b : Int)) : Value.int .u32 x = Value.int .u32 (b : Int) := by rw [h]

theorem and_one {q : Nat} (hr : q < 4294967296) : bits .and .u32 (q : Int) 1 = ((q % 2 : Nat) : Int) := by
  have h := u32_and_nat q 1 hr (by decide)
  rw [nat_mask1] at h
  exact h
theorem step_odd {q : Nat} (hr : q < 4294967296) (h : (bits .and .u32 (q : Int) 1 == 1) = true) : bits .xor .u32 ((q : Int) / 2) 2197175160 = ((Crc.S q : Nat) : Int) := by
  have h2 : q % 2 = 1 := by
    have h1 := eq_of_beq h
    rw [and_one hr] at h1
    omega
  rw [show (q : Int) / 2 = ((q / 2 : Nat) : Int) by omega, show (2197175160 : Int) = ((2197175160 : Nat) : Int) from rfl, u32_xor_nat _ _ (by omega) (by decide), Crc.S_odd h2]
  rfl
theorem step_even {q : Nat} (hr : q < 4294967296) (h : (bits .and .u32 (q : Int) 1 == 1) = false) : (q : Int) / 2 = ((Crc.S q : Nat) : Int) := by
  have h2 : q % 2 = 0 := by
    have h1 := ne_of_beq_false h
    rw [and_one hr] at h1
    omega
  rw [Crc.S_even h2]
  omega

theorem shift_any (x : Int) (h0 : 0 ≤ x) (h1 : x < 4294967296) (w : World) :
    Calls Tryz.prog 127 #[.int .u32 x] w fun e w' => e = .returned (.int .u32 ((Crc.Sn 8 x.toNat : Nat) : Int)) ∧ w = w' := by
  obtain ⟨r, rfl⟩ := Int.eq_ofNat_of_zero_le h0
  rw [Int.toNat_natCast]
  have hr0 : r < 4294967296 := by omega
  clear h0 h1
  go_enter Tryz.func127, Tryz.ntmps127
  go_wp2
  go_loop [0, 4] (fun x i => ∃ k : Nat, k ≤ 8 ∧ i = .int .i64 k ∧ x = .int .u32 ((Crc.Sn k r : Nat) : Int)) (fun _ i => 8 - (intOf i).toNat)
  case atStart => exact ⟨0, by omega, rfl, rfl⟩
  case round =>
    obtain ⟨k, hk, rfl, rfl⟩ := hrel
    have hr : Crc.Sn k r < 4294967296 := Crc.Sn_lt k hr0
    have HS := Lib.hid (Crc.Sn_succ k r)
    have HK := Lib.hid (fun h : k = 8 => h ▸ (rfl : Crc.Sn k r = Crc.Sn k r))
    by_cases hlt : k < 8
    · generalize Crc.Sn k r = q at *
      go_wp2
      · go_round
        case rel => exact ⟨k + 1, by omega, by go_num, by rw [HS.out]; exact val_u32 (step_odd hr ‹_›)⟩
        case measure => simp [intOf]; omega
      · go_round
        case rel => exact ⟨k + 1, by omega, by go_num, by rw [HS.out]; exact val_u32 (step_even hr ‹_›)⟩
        case measure => simp [intOf]; omega
    · obtain rfl : k = 8 := by omega
      go_wp2
      go_ret
      exact ⟨rfl, rfl⟩

theorem xor_max {r : Nat} (h : r < 4294967296) : bits .xor .u32 IntKind.u32.max (r : Int) = ((Crc.inv r : Nat) : Int) := by
  have e : IntKind.u32.max = ((4294967295 : Nat) : Int) := by decide
  rw [e, u32_xor_nat _ _ (by decide) h, Nat.xor_comm]
  rfl
theorem take_run {r : Nat} {l : List Nat} {k : Nat} (h : k < l.length) : Crc.run r (l.take (k + 1)) = Crc.Sn 8 (Crc.run r (l.take k) ^^^ l.getD k 0) := by
  rw [List.take_succ_eq_append_getElem h, Crc.run_snoc, List.getD_eq_getElem?_getD, List.getElem?_eq_getElem h]
  rfl

set_option maxHeartbeats 400000 in
theorem update_any (x : Int) (h0 : 0 ≤ x) (h1 : x < 4294967296) (A : Option Addr) (n c : Nat) (l : List Nat) (w : World) (hn : n ≤ 9223372036854775807) (hb : Bts w A n l) :
    Calls Tryz.prog 123 #[.int .u32 x, .slice A n c] w fun e w' => e = .returned (.int .u32 ((Crc.upd x.toNat l : Nat) : Int)) ∧ w = w' := by
  obtain ⟨r, rfl⟩ := Int.eq_ofNat_of_zero_le h0
  rw [Int.toNat_natCast]
  have hr0 : r < 4294967296 := by omega
  clear h0 h1
  obtain ⟨hl, hl8, hb⟩ := hb
  have HL := Lib.hid hl
  clear hl
  go_enter Tryz.func123, Tryz.ntmps123
  go_wp2
  go_loop [5, 12] (fun x i => ∃ k : Nat, k ≤ n ∧ i = .int .i64 k ∧ x = .int .u32 ((Crc.run (Crc.inv r) (l.take k) : Nat) : Int)) (fun _ i => n - (intOf i).toNat)
  case atStart => exact ⟨0, by omega, rfl, val_u32 (xor_max hr0)⟩
  case round =>
    obtain ⟨k, hk, rfl, rfl⟩ := hrel
    have hr : Crc.run (Crc.inv r) (l.take k) < 4294967296 := Crc.run_lt _ (Crc.inv_lt hr0) fun x hx => hl8 x (List.mem_of_mem_take hx)
    by_cases hlt : k < n
    · obtain ⟨b, off, rfl, _, hcell⟩ := hb (by omega)
      have hc := hcell k hlt
      have h8 : l.getD k 0 < 256 := by
        have hk' : k < l.length := by rw [HL.out]; exact hlt
        rw [List.getD_eq_getElem?_getD, List.getElem?_eq_getElem hk']
        exact hl8 _ (List.getElem_mem hk')
      have HS := Lib.hid (take_run (r := Crc.inv r) (l := l) (k := k) (by rw [HL.out]; exact hlt))
      clear hcell hb hl8
      generalize Crc.run (Crc.inv r) (l.take k) = q at *
      generalize l.getD k 0 = e at *
      have hx := u32_xor_nat q e hr (by omega)
      have hq := Crc.xor_lt hr (show e < 4294967296 by omega)
      go_wp2_with (go_at_call 127; refine (shift_any _ (by omega) (by omega) _).mono ?_; rintro e w' ⟨rfl, rfl⟩)
      go_round
      case rel => exact ⟨k + 1, by omega, by go_num, by rw [HS.out]⟩
      case measure => simp [intOf]; omega
    · obtain rfl : k = n := by omega
      go_wp2
      go_ret
      refine ⟨?_, rfl⟩
      rw [List.take_of_length_le (by rw [HL.out]; exact Nat.le_refl _), xor_max (by rwa [List.take_of_length_le (by rw [HL.out]; exact Nat.le_refl _)] at hr)]
      rfl

theorem sum_any (A : Option Addr) (n c : Nat) (l : List Nat) (w : World) (hn : n ≤ 9223372036854775807) (hb : Bts w A n l) :
    Calls Tryz.prog 107 #[.slice A n c] w fun e w' => e = .returned (.int .u32 ((Crc.sum l : Nat) : Int)) ∧ w = w' := by
  have HB := Lib.hid hb
  clear hb
  go_enter Tryz.func107, Tryz.ntmps107
  go_wp2_with (go_at_call 123; refine (update_any 0 (by omega) (by omega) A n c l _ hn HB.out).mono ?_; rintro e w' ⟨rfl, rfl⟩)
  go_ret
  exact ⟨rfl, rfl⟩

theorem step_odd' {q : Nat} (hr : q < 4294967296) (h : ((q : Int) % 2 == 1) = true) : bits .xor .u32 ((q : Int) / 2) 2197175160 = ((Crc.S q : Nat) : Int) :=
  step_odd hr (by rw [and_one hr]; exact h)
theorem step_even' {q : Nat} (h : ((q : Int) % 2 == 1) = false) : (q : Int) / 2 = ((Crc.S q : Nat) : Int) := by
  have h2 : q % 2 = 0 := by
    have h1 := ne_of_beq_false h
    omega
  rw [Crc.S_even h2]
  omega

end Go.Proofs.YtkajneeihhobhaaGreat

namespace Go.Proofs.YtkajneeihhobhaaGreat
open Go.RowKit


/-- Nothing but block b is written, and of that the cells from 8 on alone; no block is made. -/
structure TabOnly (b : Nat) (w w' : World) : Prop where
  only : Only [b] w w'
  size : w'.heap.size = w.heap.size
  cells : ∀ i, i < 8 → w'.cell? ⟨b, i, none⟩ = w.cell? ⟨b, i, none⟩

theorem TabOnly.refl (b : Nat) (w : World) : TabOnly b w w := ⟨Only.refl _ _, rfl, fun _ _ => rfl⟩
theorem TabOnly.trans {b : Nat} {w w' w'' : World} (h : TabOnly b w w') (k : TabOnly b w' w'') : TabOnly b w w'' :=
  ⟨h.only.trans k.only (fun _ hx => .inl hx), k.size.trans h.size, fun i hi => (k.cells i hi).trans (h.cells i hi)⟩
theorem TabOnly.drew {b : Nat} {w w' : World} (h : TabOnly b w w') : TabOnly b w w'.drew := ⟨h.only.drew, h.size, h.cells⟩
theorem TabOnly.set {b : Nat} {w w' : World} (h : TabOnly b w w') (o : Nat) (ho : 8 ≤ o) (u : Value) : TabOnly b w (w'.setCell ⟨b, o, none⟩ u) :=
  ⟨h.only.setCell (.inl (by simp)) u, by rw [World.size_setCell]; exact h.size, fun i hi => (World.cell?_setCell_other _ _ _ _ (fun e => by have := congrArg Addr.off e; simp at this; omega)).trans (h.cells i hi)⟩
theorem TabOnly.cell {b : Nat} {w w' : World} (h : TabOnly b w w') {p : Addr} (hp : p.block ≠ b) : w'.cell? p = w.cell? p := by
  rcases Nat.lt_or_ge p.block w.heap.size with hl | hl
  · exact h.only.cell hl (by simpa using hp)
  · have h1 : w.heap[p.block]? = none := Array.getElem?_eq_none hl
    have h2 : w'.heap[p.block]? = none := Array.getElem?_eq_none (by rw [h.size]; exact hl)
    simp [World.cell?, h1, h2]

/-- Block b is a Table: d is its Once's word, s its lock's state, f its entries, n its count. -/
structure Tab (w : World) (b : Nat) (d s : Int) (f : Nat → Nat) (n : Int) : Prop where
  c0 : w.cell? ⟨b, 8, none⟩ = some (.int .u32 d)
  c1 : w.cell? ⟨b, 9, none⟩ = some (.int .i32 s)
  cf : ∀ i, i < 256 → ∃ x, w.cell? ⟨b, 11 + i, none⟩ = some x
  ce : d = 0 ∨ ∀ i, i < 256 → w.cell? ⟨b, 11 + i, none⟩ = some (.int .u32 ((f i : Nat) : Int))
  cn : w.cell? ⟨b, 267, none⟩ = some (.int .i64 n)
  fr : ∀ o, w.frozen? ⟨b, o, none⟩ = false
  lt : b < w.heap.size

section
variable {w w' : World} {b : Nat} {d s n : Int} {f : Nat → Nat}
theorem ne_off {b i j : Nat} (h : i ≠ j) : (⟨b, i, none⟩ : Addr) ≠ ⟨b, j, none⟩ := fun e => h (congrArg Addr.off e)
theorem Tab.done (h : Tab w b d s f n) (d' : Int) (g : Nat → Nat) (hf : d' = 0 ∨ ∀ i, i < 256 → w.cell? ⟨b, 11 + i, none⟩ = some (.int .u32 ((g i : Nat) : Int))) : Tab (w.setCell ⟨b, 8, none⟩ (.int .u32 d')) b d' s g n where
  c0 := World.cell?_setCell_same _ _ _ h.c0
  c1 := (World.cell?_setCell_other _ _ _ _ (ne_off (by omega))).trans h.c1
  cf := fun i hi => by obtain ⟨x, hx⟩ := h.cf i hi; exact ⟨x, (World.cell?_setCell_other _ _ _ _ (ne_off (by omega))).trans hx⟩
  ce := hf.imp id fun k i hi => (World.cell?_setCell_other _ _ _ _ (ne_off (by omega))).trans (k i hi)
  cn := (World.cell?_setCell_other _ _ _ _ (ne_off (by omega))).trans h.cn
  fr := fun o => by rw [World.frozen?_setCell]; exact h.fr o
  lt := by rw [World.size_setCell]; exact h.lt
theorem Tab.state (h : Tab w b d s f n) (s' : Int) : Tab (w.setCell ⟨b, 9, none⟩ (.int .i32 s')) b d s' f n where
  c0 := (World.cell?_setCell_other _ _ _ _ (ne_off (by omega))).trans h.c0
  c1 := World.cell?_setCell_same _ _ _ h.c1
  cf := fun i hi => by obtain ⟨x, hx⟩ := h.cf i hi; exact ⟨x, (World.cell?_setCell_other _ _ _ _ (ne_off (by omega))).trans hx⟩
  ce := h.ce.imp id fun g i hi => (World.cell?_setCell_other _ _ _ _ (ne_off (by omega))).trans (g i hi)
  cn := (World.cell?_setCell_other _ _ _ _ (ne_off (by omega))).trans h.cn
  fr := fun o => by rw [World.frozen?_setCell]; exact h.fr o
  lt := by rw [World.size_setCell]; exact h.lt
theorem Tab.count (h : Tab w b d s f n) (n' : Int) : Tab (w.setCell ⟨b, 267, none⟩ (.int .i64 n')) b d s f n' where
  c0 := (World.cell?_setCell_other _ _ _ _ (ne_off (by omega))).trans h.c0
  c1 := (World.cell?_setCell_other _ _ _ _ (ne_off (by omega))).trans h.c1
  cf := fun i hi => by obtain ⟨x, hx⟩ := h.cf i hi; exact ⟨x, (World.cell?_setCell_other _ _ _ _ (ne_off (by omega))).trans hx⟩
  ce := h.ce.imp id fun g i hi => (World.cell?_setCell_other _ _ _ _ (ne_off (by omega))).trans (g i hi)
  cn := World.cell?_setCell_same _ _ _ h.cn
  fr := fun o => by rw [World.frozen?_setCell]; exact h.fr o
  lt := by rw [World.size_setCell]; exact h.lt
theorem Tab.entry (h : Tab w b 0 s f n) (j : Nat) (hj : j < 256) (u : Value) : Tab (w.setCell ⟨b, 11 + j, none⟩ u) b 0 s f n where
  c0 := (World.cell?_setCell_other _ _ _ _ (ne_off (by omega))).trans h.c0
  c1 := (World.cell?_setCell_other _ _ _ _ (ne_off (by omega))).trans h.c1
  cf := fun i hi => by
    obtain ⟨x, hx⟩ := h.cf i hi
    by_cases e : j = i
    · subst e; exact ⟨u, World.cell?_setCell_same _ _ _ hx⟩
    · exact ⟨x, (World.cell?_setCell_other _ _ _ _ (ne_off (by omega))).trans hx⟩
  ce := .inl rfl
  cn := (World.cell?_setCell_other _ _ _ _ (ne_off (by omega))).trans h.cn
  fr := fun o => by rw [World.frozen?_setCell]; exact h.fr o
  lt := by rw [World.size_setCell]; exact h.lt
theorem Tab.drew (h : Tab w b d s f n) : Tab w.drew b d s f n := ⟨h.c0, h.c1, h.cf, h.ce, h.cn, h.fr, h.lt⟩
end

theorem disable (w : World) : (callFunc 143 #[]).run Tryz.prog w = .ok (.value (.tuple #[])) w := run_call_mark0 Tryz.func143 (by kernel_rfl) (by kernel_rfl) (by kernel_rfl) .disable (by kernel_rfl) w
theorem enable (w : World) : (callFunc 145 #[]).run Tryz.prog w = .ok (.value (.tuple #[])) w := run_call_mark0 Tryz.func145 (by kernel_rfl) (by kernel_rfl) (by kernel_rfl) .enable (by kernel_rfl) w
theorem acquire (a : Addr) (w : World) : (callFunc 146 #[.pointer (some a)]).run Tryz.prog w = .ok (.value (.tuple #[])) w := run_call_marked Tryz.func146 (by kernel_rfl) (by kernel_rfl) (by kernel_rfl) .acquire (by kernel_rfl) a w
theorem releaseMerge (a : Addr) (w : World) : (callFunc 148 #[.pointer (some a)]).run Tryz.prog w = .ok (.value (.tuple #[])) w := run_call_marked Tryz.func148 (by kernel_rfl) (by kernel_rfl) (by kernel_rfl) .releaseMerge (by kernel_rfl) a w

set_option maxRecDepth 100000 in
theorem store_deferred (a : Addr) (x : Value) (u : FrameMode) (w : World) (hc : w.cell? a = some x) (hz : w.frozen? a = false) :
    CallsD Tryz.prog 137 #[.pointer (some a), .bool true] u w fun e u' w' => u' = u ∧ (e = .returned (.tuple #[]) ∧ w' = w.drew.setCell a (.int .u32 1)) := by
  have hc' : w.drew.cell? a = some x := by go_simp
  have hz' : w.drew.frozen? a = false := by go_simp
  have hst := run_call_store (P := Tryz.prog) Tryz.func141 (by kernel_rfl) (by kernel_rfl) (by kernel_rfl) (by kernel_rfl) (k := .u32) (y := 1) hc' hz'
  go_enter_d Tryz.func137, Tryz.ntmps137
  go_wp2
  go_region_calls
  all_goals (go_end0; exact ⟨rfl, rfl⟩)

set_option maxRecDepth 100000 in
theorem unlock_deferred (a : Addr) (u : FrameMode) (w : World) (hc : w.cell? a = some (.int .i32 1)) (hz : w.frozen? a = false) :
    CallsD Tryz.prog 136 #[.pointer (some a)] u w fun e u' w' => u' = u ∧ (e = .returned (.tuple #[]) ∧ w' = w.setCell a (.int .i32 0)) := by
  have hd := disable
  have he := enable
  have hr := releaseMerge
  have hadd := run_call_add (P := Tryz.prog) Tryz.func149 (by kernel_rfl) (by kernel_rfl) (by kernel_rfl) .i32 (by kernel_rfl) (y := -1) (s := 0) hc hz (by simp [go_sem]; rfl)
  have hcv := run_convert_to_unsafe (P := Tryz.prog) (src := 215) (dst := 219) Tryz.underlying215 Tryz.underlying219 (by kernel_rfl) hc
  go_enter_d Tryz.func136, Tryz.ntmps136
  go_wp2
  go_end0
  go_wp2
  go_end0
  exact ⟨rfl, rfl⟩

set_option maxRecDepth 100000 in
theorem lock_free (a : Addr) (w : World) (hc : w.cell? a = some (.int .i32 0)) (hz : w.frozen? a = false) :
    Calls Tryz.prog 135 #[.pointer (some a)] w fun e w' => e = .returned (.tuple #[]) ∧ w' = w.setCell a (.int .i32 1) := by
  have hd := disable
  have he := enable
  have ha := acquire
  have hcas := run_call_cas_hit (P := Tryz.prog) Tryz.func144 (by kernel_rfl) (by kernel_rfl) (by kernel_rfl) .i32 (by kernel_rfl) (y := 1) hc hz
  have hc' : (w.setCell a (.int .i32 1)).cell? a = some (.int .i32 1) := World.cell?_setCell_same w a _ hc
  have hcv := run_convert_to_unsafe (P := Tryz.prog) (src := 215) (dst := 219) Tryz.underlying215 Tryz.underlying219 (by kernel_rfl) hc'
  go_enter Tryz.func135, Tryz.ntmps135
  go_wp2
  first | go_end0 | (simp only [Exit.inBlock, Exit.then]; refine bodyPost_ret (results_none rfl _ _ _) rfl ?_) | refine bodyPost_ret (results_none rfl _ _ _) rfl ?_
  go_wp2
  go_end0
  exact ⟨rfl, rfl⟩


set_option maxRecDepth 100000 in
set_option maxHeartbeats 400000 in
theorem fill_any (b : Nat) (s n : Int) (f : Nat → Nat) (w : World) (ht : Tab w b 0 s f n) :
    Calls Tryz.prog 110 #[.pointer (some ⟨b, 8, none⟩)] w fun e w' => e = .returned (.tuple #[]) ∧ Tab w' b 0 s f n ∧ TabOnly b w w' ∧ ∀ i, i < 256 → w'.cell? ⟨b, 11 + i, none⟩ = some (.int .u32 ((Crc.Sn 8 i : Nat) : Int)) := by
  have HT := Lib.hid ht
  clear ht
  go_enter Tryz.func110, Tryz.ntmps110
  go_wp2
  go_loopw [3] (fun i wr => ∃ k : Nat, k ≤ 256 ∧ i = .int .i64 k ∧ Tab wr b 0 s f n ∧ TabOnly b w wr ∧ ∀ i, i < k → wr.cell? ⟨b, 11 + i, none⟩ = some (.int .u32 ((Crc.Sn 8 i : Nat) : Int))) (fun i _ => 256 - (intOf i).toNat)
  case atStart => exact ⟨0, by omega, rfl, HT.out, TabOnly.refl _ _, fun i hi => by omega⟩
  case round =>
    obtain ⟨k, hk, rfl, ht, ho, hs⟩ := hrel
    have HT1 := Lib.hid ht
    have HO := Lib.hid ho
    have HS := Lib.hid hs
    clear hs ho
    by_cases hlt : k < 256
    · obtain ⟨x, hx⟩ := ht.cf k hlt
      have hf := ht.fr (11 + k)
      clear ht
      have hkz : (0 : Int) ≤ (k : Int) := by omega
      have hk2 : (k : Int) < 256 := by omega
      have hw : IntKind.u32.wrap (k : Int) = (k : Int) := by rw [IntKind.wrap_u32]; omega
      go_wp2_with fail
      go_region_with (go_at_call 127; refine (shift_any _ (by omega) (by omega) _).mono ?_; rintro e w' ⟨rfl, rfl⟩)
      clear hw
      go_wp2
      go_roundw
      case rel =>
        refine ⟨k + 1, by omega, by go_num, (HT1.out.entry k hlt _).drew, (HO.out.set _ (by omega) _).drew, fun i hi => ?_⟩
        rw [World.cell?_drew]
        by_cases e : i = k
        · subst e; exact World.cell?_setCell_same _ _ _ hx
        · exact (World.cell?_setCell_other _ _ _ _ (ne_off (by omega))).trans (HS.out i (by omega))
      case measure => simp [intOf]; omega
    · obtain rfl : k = 256 := by omega
      go_wp2
      go_end0
      exact ⟨rfl, HT1.out, HO.out, HS.out⟩

set_option maxRecDepth 100000 in
set_option maxHeartbeats 1600000 in
theorem slow_any (b : Nat) (n : Int) (f : Nat → Nat) (w : World) (ht : Tab w b 0 0 f n) :
    Calls Tryz.prog 126 #[.pointer (some ⟨b, 8, none⟩), .func (.func 110) #[.pointer (some ⟨b, 8, none⟩)] #[]] w fun e w' => e = .returned (.tuple #[]) ∧
      Tab w' b 1 0 (Crc.Sn 8) n ∧ TabOnly b w w' := by
  have HT := Lib.hid ht
  have h1 := ht.c1
  have f1 := ht.fr 9
  have hl := run_call_load (P := Tryz.prog) Tryz.func134 (by kernel_rfl) (by kernel_rfl) (by kernel_rfl) .u32 (by kernel_rfl) (ht.state 1).c0
  have hnot : ∀ (x : Bool) (w : World), (Op.unary .not (.bool x)).run Tryz.prog w = .ok (.bool (!x)) w := fun _ _ => rfl
  clear ht
  go_enter_defers Tryz.func126, Tryz.ntmps126
  go_wp2_with (go_at_call 135; refine (lock_free ⟨b, 9, none⟩ _ (by go_simp) (by go_simp)).mono ?_; rintro e w' ⟨rfl, rfl⟩)
  go_wp2_with (first | (go_at_call 110; refine (fill_any b 1 n f _ (HT.out.state 1)).mono ?_; rintro e w' ⟨rfl, ht2, ho2, hs2⟩) | (go_at_call 125; go_in))
  refine leaves_cons (f := 137) (args := #[.pointer (some ⟨b, 8, none⟩), .bool true]) (by simp) (by simp [go_sem]) ?_
  refine (store_deferred ⟨b, 8, none⟩ _ .returning _ ht2.c0 (ht2.fr 8)).mono ?_
  rintro e u' w'' ⟨rfl, rfl, rfl⟩
  have HT3 := Lib.hid (ht2.drew.done 1 (Crc.Sn 8) (.inr hs2))
  refine leaves_cons (f := 136) (args := #[.pointer (some ⟨b, 9, none⟩)]) (by simp [settle]) (by simp [go_sem]) ?_
  refine (unlock_deferred ⟨b, 9, none⟩ _ _ HT3.out.c1 (HT3.out.fr 9)).mono ?_
  rintro e u' w'' ⟨rfl, rfl, rfl⟩
  have h4 : Tab _ b 1 0 (Crc.Sn 8) n := HT3.out.state 0
  have o4 := (((((TabOnly.refl b w).set 9 (by omega) (.int .i32 1)).trans ho2).drew).set 8 (by omega) (.int .u32 1)).set 9 (by omega) (.int .i32 0)
  simp [Leaves, settle, results, Tryz.results126]
  exact ⟨h4, o4⟩

set_option maxRecDepth 100000 in
set_option maxHeartbeats 1600000 in
/-- Do, the first time. -/
theorem do_first (b : Nat) (n : Int) (f : Nat → Nat) (w : World) (ht : Tab w b 0 0 f n) :
    Calls Tryz.prog 109 #[.pointer (some ⟨b, 8, none⟩), .func (.func 110) #[.pointer (some ⟨b, 8, none⟩)] #[]] w fun e w' => e = .returned (.tuple #[]) ∧
      Tab w' b 1 0 (Crc.Sn 8) n ∧ TabOnly b w w' := by
  have HT := Lib.hid ht
  have hl := run_call_load (P := Tryz.prog) Tryz.func134 (by kernel_rfl) (by kernel_rfl) (by kernel_rfl) .u32 (by kernel_rfl) ht.c0
  have hnot : ∀ (x : Bool) (w : World), (Op.unary .not (.bool x)).run Tryz.prog w = .ok (.bool (!x)) w := fun _ _ => rfl
  clear ht
  go_enter Tryz.func109, Tryz.ntmps109
  go_wp2_with (first | (go_at_call 126; refine (slow_any b n f _ HT.out).mono ?_; rintro e w' ⟨rfl, ht2, ho2⟩) | (go_at_call 125; go_in))
  go_end0
  exact ⟨rfl, ht2, ho2⟩

/-- Do, done already. -/
theorem do_done (b : Nat) (fv : Value) (w : World) (h0 : w.cell? ⟨b, 8, none⟩ = some (.int .u32 1)) :
    Calls Tryz.prog 109 #[.pointer (some ⟨b, 8, none⟩), fv] w fun e w' => e = .returned (.tuple #[]) ∧ w' = w := by
  have hl := run_call_load (P := Tryz.prog) Tryz.func134 (by kernel_rfl) (by kernel_rfl) (by kernel_rfl) .u32 (by kernel_rfl) h0
  have hnot : ∀ (x : Bool) (w : World), (Op.unary .not (.bool x)).run Tryz.prog w = .ok (.bool (!x)) w := fun _ _ => rfl
  go_enter Tryz.func109, Tryz.ntmps109
  go_wp2
  go_end0
  exact ⟨rfl, rfl⟩

/-- The table is fresh, or it has been made. -/
def FitN (w : World) (b : Nat) (n : Int) : Prop := (∃ f, Tab w b 0 0 f n) ∨ Tab w b 1 0 (Crc.Sn 8) n

theorem do_any (b : Nat) (n : Int) (w : World) (ht : FitN w b n) :
    Calls Tryz.prog 109 #[.pointer (some ⟨b, 8, none⟩), .func (.func 110) #[.pointer (some ⟨b, 8, none⟩)] #[]] w fun e w' => e = .returned (.tuple #[]) ∧
      Tab w' b 1 0 (Crc.Sn 8) n ∧ TabOnly b w w' := by
  rcases ht with ⟨f, ht⟩ | ht
  · exact do_first b n f w ht
  · refine (do_done b _ w ht.c0).mono ?_
    rintro e w' ⟨rfl, rfl⟩
    exact ⟨rfl, ht, TabOnly.refl _ _⟩

/-- The count goes up by one. -/
theorem add_any (b : Nat) (n : Int) (w : World) (hc : w.cell? ⟨b, 267, none⟩ = some (.int .i64 n)) (hz : w.frozen? ⟨b, 267, none⟩ = false) :
    Calls Tryz.prog 108 #[.pointer (some ⟨b, 267, none⟩), .int .i64 1] w fun e w' => (∃ v, e = .returned v) ∧ w' = w.setCell ⟨b, 267, none⟩ (.int .i64 (wrap64 (n + 1))) := by
  have hadd := run_call_add (P := Tryz.prog) Tryz.func124 (by kernel_rfl) (by kernel_rfl) (by kernel_rfl) .i64 (by kernel_rfl) (y := 1) (s := wrap64 (n + 1)) hc hz (by simp [go_sem, IntKind.wrap_i64, wrap64])
  go_enter Tryz.func108, Tryz.ntmps108
  go_wp2
  go_ret
  exact ⟨⟨_, rfl⟩, rfl⟩


theorem nil_sum (A : Option Addr) (m c : Nat) (l : List Nat) (w : World) (hm : m ≤ 9223372036854775807) (hb : Bts w A m l) :
    Calls Tryz.prog 94 #[.pointer none, .slice A m c] w fun e w' => e = .returned (.int .u32 ((Crc.sum l : Nat) : Int)) ∧ w = w' := by
  have HB := Lib.hid hb
  clear hb
  go_enter Tryz.func94, Tryz.ntmps94
  go_wp2_with (go_at_call 107; refine (sum_any A m c l _ hm HB.out).mono ?_; rintro e w' ⟨rfl, rfl⟩)
  go_ret
  exact ⟨rfl, rfl⟩

/-- A register behind one byte, by the table. -/
theorem by_table (q e : Nat) : Crc.Sn 8 (q ^^^ e) = (q / 256) ^^^ Crc.Sn 8 ((q % 256) ^^^ e) := by
  have h1 : ∀ m, Crc.Sn 8 (m * 256) = m := by
    intro m
    have hd : ∀ k, Crc.S (2 * k) = k := fun k => by rw [Crc.S_even (by omega)]; omega
    show Crc.S (Crc.S (Crc.S (Crc.S (Crc.S (Crc.S (Crc.S (Crc.S (m * 256)))))))) = m
    rw [show m * 256 = 2 * (2 * (2 * (2 * (2 * (2 * (2 * (2 * m))))))) by omega, hd, hd, hd, hd, hd, hd, hd, hd]
  have h2 : q = (q / 256 * 256) ^^^ (q % 256) := by
    have : q / 256 * 256 ^^^ q % 256 = q / 256 * 256 + q % 256 := by
      have h3 := Nat.two_pow_add_eq_or_of_lt (i := 8) (b := q % 256) (by omega) (q / 256)
      have h4 : (q / 256 * 256) &&& (q % 256) = 0 := by
        apply Nat.eq_of_testBit_eq
        intro i
        rw [Nat.testBit_and, Nat.zero_testBit]
        by_cases hi : i < 8
        · have : (q / 256 * 256).testBit i = false := by
            rw [show q / 256 * 256 = 2 ^ 8 * (q / 256) by omega, Nat.testBit_two_pow_mul]
            simp; omega
          rw [this]; rfl
        · have : (q % 256).testBit i = false := by
            apply Nat.testBit_lt_two_pow
            have : 2 ^ 8 ≤ 2 ^ i := Nat.pow_le_pow_right (by omega) (by omega)
            omega
          rw [this, Bool.and_false]
      have h5 : (q / 256 * 256) ^^^ (q % 256) = (q / 256 * 256) ||| (q % 256) := by
        apply Nat.eq_of_testBit_eq
        intro i
        have h6 := congrArg (fun x => Nat.testBit x i) h4
        simp only [Nat.testBit_and, Nat.zero_testBit] at h6
        rw [Nat.testBit_xor, Nat.testBit_or]
        cases ha : (q / 256 * 256).testBit i <;> cases hb : (q % 256).testBit i <;> rw [ha, hb] at h6 <;> simp_all
      rw [h5, show q / 256 * 256 = 2 ^ 8 * (q / 256) by omega, ← h3]
    omega
  have h7 : q ^^^ e = (q / 256 * 256) ^^^ ((q % 256) ^^^ e) := by
    conv => lhs; rw [h2]
    rw [Nat.xor_assoc]
  rw [h7, Crc.Sn_xor, h1]

set_option maxRecDepth 100000 in
set_option maxHeartbeats 400000 in
theorem tab_sumN (b : Nat) (n : Int) (A : Option Addr) (m c : Nat) (l : List Nat) (w : World) (hm : m ≤ 9223372036854775807) (hb : Bts w A m l)
    (hA : 0 < m → ∀ x, A = some x → x.block ≠ b) (ht : FitN w b n) :
    Calls Tryz.prog 94 #[.pointer (some ⟨b, 8, none⟩), .slice A m c] w fun e w' => e = .returned (.int .u32 ((Crc.sum l : Nat) : Int)) ∧ FitN w' b (wrap64 (n + 1)) ∧ TabOnly b w w' := by
  have HB := Lib.hid hb
  have hT : (w.cell? ⟨b, 267, none⟩ = some (.int .i64 n)) ∧ (w.frozen? ⟨b, 267, none⟩ = false) := by
    rcases ht with ⟨f, ht⟩ | ht
    · exact ⟨ht.cn, ht.fr 267⟩
    · exact ⟨ht.cn, ht.fr 267⟩
  have HF : Hid (FitN (w.setCell ⟨b, 267, none⟩ (.int .i64 (wrap64 (n + 1)))) b (wrap64 (n + 1))) := by
    rcases ht with ⟨f, ht⟩ | ht
    · exact .inl ⟨f, ht.count _⟩
    · exact .inr (ht.count _)
  have hmf : ∀ (fn : Fn) (first cap : Array Value) (w : World), (Instr.makeFunc fn first cap).run Tryz.prog w = .ok (.func fn first cap) w := fun _ _ _ _ => rfl
  have HC := Lib.hid hT.1
  have HZ := Lib.hid hT.2
  have HA := Lib.hid hA
  clear hb ht hT hA
  go_enter Tryz.func94, Tryz.ntmps94
  go_wp2_with (first
    | (go_at_call 108; refine (add_any b n _ HC.out HZ.out).mono ?_; rintro e w' ⟨⟨v, rfl⟩, rfl⟩)
    | (go_at_call 109; refine (do_any b (wrap64 (n + 1)) _ HF.out).mono ?_; rintro e w' ⟨rfl, ht2, ho2⟩))
  have hent : ∀ i, i < 256 → w'.cell? ⟨b, 11 + i, none⟩ = some (.int .u32 ((Crc.Sn 8 i : Nat) : Int)) := ht2.ce.resolve_left (by omega)
  have ho3 : TabOnly b w w' := ((TabOnly.refl b w).set 267 (by omega) _).trans ho2
  have hcl : 0 < m → ∃ g off, A = some ⟨g, off, none⟩ ∧ ∀ i, i < m → w'.cell? ⟨g, off + i, none⟩ = some (.int .u8 ((l.getD i 0 : Nat) : Int)) := by
    intro hp
    obtain ⟨g, off, rfl, _, hc⟩ := HB.out.2.2 hp
    exact ⟨g, off, rfl, fun i hi => (ho3.cell (p := ⟨g, off + i, none⟩) (HA.out hp ⟨g, off, none⟩ rfl)).trans (hc i hi)⟩
  have HE := Lib.hid (show FitN w' b (wrap64 (n + 1)) ∧ TabOnly b w w' from ⟨.inr ht2, ho3⟩)
  have hl8 := HB.out.2.1
  have HL := Lib.hid HB.out.1
  clear ht2 ho2 ho3 HA HB HC HZ HF
  go_loop [5, 24] (fun x i => ∃ k : Nat, k ≤ m ∧ i = .int .i64 k ∧ x = .int .u32 ((Crc.run (Crc.inv 0) (l.take k) : Nat) : Int)) (fun _ i => m - (intOf i).toNat)
  case atStart => exact ⟨0, by omega, rfl, rfl⟩
  case round =>
    obtain ⟨k, hk, rfl, rfl⟩ := hrel
    have hr : Crc.run (Crc.inv 0) (l.take k) < 4294967296 := Crc.run_lt _ (by decide) fun x hx => hl8 x (List.mem_of_mem_take hx)
    by_cases hlt : k < m
    · obtain ⟨g, off, rfl, hcell⟩ := hcl (by omega)
      have hc := hcell k hlt
      have h8 : l.getD k 0 < 256 := by
        have hk' : k < l.length := by rw [HL.out]; exact hlt
        rw [List.getD_eq_getElem?_getD, List.getElem?_eq_getElem hk']
        exact hl8 _ (List.getElem_mem hk')
      have HS := Lib.hid (take_run (r := Crc.inv 0) (l := l) (k := k) (by rw [HL.out]; exact hlt))
      clear hcell hcl hl8
      generalize Crc.run (Crc.inv 0) (l.take k) = q at *
      generalize l.getD k 0 = e at *
      have hi : (q % 256) ^^^ e < 256 := by
        have := Nat.xor_lt_two_pow (n := 8) (show q % 256 < 2 ^ 8 by omega) (show e < 2 ^ 8 by omega)
        omega
      have he := hent _ hi
      have hx8 : bits .xor .u8 ((q : Int) % 256) (e : Int) = (((q % 256) ^^^ e : Nat) : Int) := u8_xor_nat (q % 256) e (by omega) h8
      have HB := Lib.hid (by_table q e)
      clear hent
      generalize (q % 256) ^^^ e = z at *
      have HZ : Hid (bits .xor .u32 ((q : Int) / 256) ((Crc.Sn 8 z : Nat) : Int) = (((q / 256) ^^^ Crc.Sn 8 z : Nat) : Int)) := u32_xor_nat (q / 256) _ (by omega) (Crc.Sn_lt 8 (by omega))
      go_wp2
      go_round
      case rel => exact ⟨k + 1, by omega, by go_num, by rw [HS.out, HB.out]; exact val_u32 HZ.out⟩
      case measure => simp [intOf]; omega
    · obtain rfl : k = m := by omega
      go_wp2
      go_ret
      refine ⟨?_, HE.out⟩
      rw [List.take_of_length_le (by rw [HL.out]; exact Nat.le_refl _), xor_max (by rwa [List.take_of_length_le (by rw [HL.out]; exact Nat.le_refl _)] at hr)]
      rfl
theorem FitN.cn {w : World} {b : Nat} {n : Int} (h : FitN w b n) : w.cell? ⟨b, 267, none⟩ = some (.int .i64 n) := by
  rcases h with ⟨f, h⟩ | h
  · exact h.cn
  · exact h.cn

/-- The table is fresh, or it has been made; whatever it counts. -/
def Fit (w : World) (b : Nat) : Prop := ∃ n, FitN w b n
theorem tab_sum (b : Nat) (A : Option Addr) (m c : Nat) (l : List Nat) (w : World) (hm : m ≤ 9223372036854775807) (hb : Bts w A m l) (hA : 0 < m → ∀ x, A = some x → x.block ≠ b) (ht : Fit w b) :
    Calls Tryz.prog 94 #[.pointer (some ⟨b, 8, none⟩), .slice A m c] w fun e w' => e = .returned (.int .u32 ((Crc.sum l : Nat) : Int)) ∧ Fit w' b ∧ TabOnly b w w' := by
  obtain ⟨n, ht⟩ := ht
  exact (tab_sumN b n A m c l w hm hb hA ht).mono fun e w' ⟨h1, h2, h3⟩ => ⟨h1, ⟨_, h2⟩, h3⟩
theorem Tab.far {w w' : World} {b : Nat} {d s n : Int} {f : Nat → Nat} (h : Tab w b d s f n) (hl : w.heap.size ≤ w'.heap.size) (hc : ∀ i, 8 ≤ i → w'.cell? ⟨b, i, none⟩ = w.cell? ⟨b, i, none⟩) (hf : ∀ i, w'.frozen? ⟨b, i, none⟩ = w.frozen? ⟨b, i, none⟩) : Tab w' b d s f n where
  c0 := (hc _ (by omega)).trans h.c0
  c1 := (hc _ (by omega)).trans h.c1
  cf := fun i hi => by obtain ⟨x, hx⟩ := h.cf i hi; exact ⟨x, (hc _ (by omega)).trans hx⟩
  ce := h.ce.imp id fun g i hi => (hc _ (by omega)).trans (g i hi)
  cn := (hc _ (by omega)).trans h.cn
  fr := fun o => (hf o).trans (h.fr o)
  lt := by have := h.lt; omega
theorem Fit.far {w w' : World} {b : Nat} (h : Fit w b) (hl : w.heap.size ≤ w'.heap.size) (hc : ∀ i, 8 ≤ i → w'.cell? ⟨b, i, none⟩ = w.cell? ⟨b, i, none⟩) (hf : ∀ i, w'.frozen? ⟨b, i, none⟩ = w.frozen? ⟨b, i, none⟩) : Fit w' b := by
  obtain ⟨n, ⟨f, h⟩ | h⟩ := h
  · exact ⟨n, .inl ⟨f, h.far hl hc hf⟩⟩
  · exact ⟨n, .inr (h.far hl hc hf)⟩
theorem Fit.fr {w : World} {b : Nat} (h : Fit w b) (i : Nat) : w.frozen? ⟨b, i, none⟩ = false := by
  obtain ⟨n, ⟨f, h⟩ | h⟩ := h <;> exact h.fr i
theorem Fit.lt {w : World} {b : Nat} (h : Fit w b) : b < w.heap.size := by
  obtain ⟨n, ⟨f, h⟩ | h⟩ := h <;> exact h.lt
end Go.Proofs.YtkajneeihhobhaaGreat
