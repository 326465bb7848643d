/-
  The walks of crc.Table: its Once, its count, its table of 256 entries: whatever was summed before, Sum is the register over the bytes, and one call more is counted; nothing but the table's own block is written.
-/
import Derived.Test.YtpkbhchgfcediaaCrcA
import Derived.Tactics
import Derived.Tactics2
import Derived.Defers
import Derived.Laws.Pointers
import Derived.Laws.LoneSync
import Derived.RegionTactic
import Derived.RegionCalls
import Derived.ChangeAlike
import Derived.Below
namespace Go.Proofs.Ytpkbhchgfcediaa
open Go.RowKit

/-- Nothing but block b is written; no block is made. -/
structure Only (b : Nat) (w w' : World) : Prop where
  os : w'.os = w.os
  tape : w'.tape = w.tape
  output : w'.output = w.output
  size : w'.heap.size = w.heap.size
  block : ∀ k, k ≠ b → w'.heap[k]? = w.heap[k]?

theorem Only.refl (b : Nat) (w : World) : Only b w w := ⟨rfl, rfl, rfl, rfl, fun _ _ => rfl⟩
theorem Only.trans {b : Nat} {w w' w'' : World} (h : Only b w w') (k : Only b w' w'') : Only b w w'' :=
  ⟨k.os.trans h.os, k.tape.trans h.tape, k.output.trans h.output, k.size.trans h.size, fun i hi => (k.block i hi).trans (h.block i hi)⟩
theorem Only.drew {b : Nat} {w w' : World} (h : Only b w w') : Only b w w'.drew := ⟨h.os, h.tape, h.output, h.size, h.block⟩
theorem Only.set {b : Nat} {w w' : World} (h : Only b w w') (o : Nat) (u : Value) : Only b w (w'.setCell ⟨b, o, none⟩ u) :=
  h.trans ⟨rfl, rfl, rfl, by simp [World.setCell], fun k hk => Below.heap_setCell _ _ _ _ hk⟩
theorem Only.cell {b : Nat} {w w' : World} (h : Only b w w') {p : Addr} (hp : p.block ≠ b) : w'.cell? p = w.cell? p := World.cell?_of_block (w := w) (h.block p.block hp)
theorem Only.frozen {b : Nat} {w w' : World} (h : Only b w w') {p : Addr} (hp : p.block ≠ b) : w'.frozen? p = w.frozen? p := World.frozen?_of_block (w := w) (h.block p.block hp)
theorem Only.below {b B : Nat} {w w' : World} (h : Only b w w') (hb : B ≤ b) : Below B w w' := ⟨h.os, h.tape, h.output, by rw [h.size]; exact Nat.le_refl _, fun k hk => h.block k (by omega)⟩

/-- Block b is a Table: d is its Once's word, s its lock's state, f its entries, n its count. -/
structure Tab (w : World) (b : Nat) (d s : Int) (f : Nat → Nat) (n : Int) : Prop where
  c0 : w.cell? ⟨b, 0, none⟩ = some (.int .u32 d)
  c1 : w.cell? ⟨b, 1, none⟩ = some (.int .i32 s)
  cf : ∀ i, i < 256 → ∃ x, w.cell? ⟨b, 3 + i, none⟩ = some x
  ce : d = 0 ∨ ∀ i, i < 256 → w.cell? ⟨b, 3 + i, none⟩ = some (.int .u32 ((f i : Nat) : Int))
  cn : w.cell? ⟨b, 259, none⟩ = some (.int .i64 n)
  fr : ∀ o, w.frozen? ⟨b, o, none⟩ = false
  lt : b < w.heap.size

section
variable {w w' : World} {b : Nat} {d s n : Int} {f : Nat → Nat}
theorem ne_off {b i j : Nat} (h : i ≠ j) : (⟨b, i, none⟩ : Addr) ≠ ⟨b, j, none⟩ := fun e => h (congrArg Addr.off e)
theorem Tab.done (h : Tab w b d s f n) (d' : Int) (g : Nat → Nat) (hf : d' = 0 ∨ ∀ i, i < 256 → w.cell? ⟨b, 3 + i, none⟩ = some (.int .u32 ((g i : Nat) : Int))) : Tab (w.setCell ⟨b, 0, none⟩ (.int .u32 d')) b d' s g n where
  c0 := World.cell?_setCell_same _ _ _ h.c0
  c1 := (World.cell?_setCell_other _ _ _ _ (ne_off (by omega))).trans h.c1
  cf := fun i hi => by obtain ⟨x, hx⟩ := h.cf i hi; exact ⟨x, (World.cell?_setCell_other _ _ _ _ (ne_off (by omega))).trans hx⟩
  ce := hf.imp id fun k i hi => (World.cell?_setCell_other _ _ _ _ (ne_off (by omega))).trans (k i hi)
  cn := (World.cell?_setCell_other _ _ _ _ (ne_off (by omega))).trans h.cn
  fr := fun o => by rw [World.frozen?_setCell]; exact h.fr o
  lt := by rw [World.size_setCell]; exact h.lt
theorem Tab.state (h : Tab w b d s f n) (s' : Int) : Tab (w.setCell ⟨b, 1, none⟩ (.int .i32 s')) b d s' f n where
  c0 := (World.cell?_setCell_other _ _ _ _ (ne_off (by omega))).trans h.c0
  c1 := World.cell?_setCell_same _ _ _ h.c1
  cf := fun i hi => by obtain ⟨x, hx⟩ := h.cf i hi; exact ⟨x, (World.cell?_setCell_other _ _ _ _ (ne_off (by omega))).trans hx⟩
  ce := h.ce.imp id fun g i hi => (World.cell?_setCell_other _ _ _ _ (ne_off (by omega))).trans (g i hi)
  cn := (World.cell?_setCell_other _ _ _ _ (ne_off (by omega))).trans h.cn
  fr := fun o => by rw [World.frozen?_setCell]; exact h.fr o
  lt := by rw [World.size_setCell]; exact h.lt
theorem Tab.count (h : Tab w b d s f n) (n' : Int) : Tab (w.setCell ⟨b, 259, none⟩ (.int .i64 n')) b d s f n' where
  c0 := (World.cell?_setCell_other _ _ _ _ (ne_off (by omega))).trans h.c0
  c1 := (World.cell?_setCell_other _ _ _ _ (ne_off (by omega))).trans h.c1
  cf := fun i hi => by obtain ⟨x, hx⟩ := h.cf i hi; exact ⟨x, (World.cell?_setCell_other _ _ _ _ (ne_off (by omega))).trans hx⟩
  ce := h.ce.imp id fun g i hi => (World.cell?_setCell_other _ _ _ _ (ne_off (by omega))).trans (g i hi)
  cn := World.cell?_setCell_same _ _ _ h.cn
  fr := fun o => by rw [World.frozen?_setCell]; exact h.fr o
  lt := by rw [World.size_setCell]; exact h.lt
theorem Tab.entry (h : Tab w b 0 s f n) (j : Nat) (hj : j < 256) (u : Value) : Tab (w.setCell ⟨b, 3 + j, none⟩ u) b 0 s f n where
  c0 := (World.cell?_setCell_other _ _ _ _ (ne_off (by omega))).trans h.c0
  c1 := (World.cell?_setCell_other _ _ _ _ (ne_off (by omega))).trans h.c1
  cf := fun i hi => by
    obtain ⟨x, hx⟩ := h.cf i hi
    by_cases e : j = i
    · subst e; exact ⟨u, World.cell?_setCell_same _ _ _ hx⟩
    · exact ⟨x, (World.cell?_setCell_other _ _ _ _ (ne_off (by omega))).trans hx⟩
  ce := .inl rfl
  cn := (World.cell?_setCell_other _ _ _ _ (ne_off (by omega))).trans h.cn
  fr := fun o => by rw [World.frozen?_setCell]; exact h.fr o
  lt := by rw [World.size_setCell]; exact h.lt
theorem Tab.drew (h : Tab w b d s f n) : Tab w.drew b d s f n := ⟨h.c0, h.c1, h.cf, h.ce, h.cn, h.fr, h.lt⟩
end

theorem disable (w : World) : (callFunc 31 #[]).run Try.prog w = .ok (.value (.tuple #[])) w := run_call_mark0 Try.func31 (by kernel_rfl) (by kernel_rfl) (by kernel_rfl) .disable (by kernel_rfl) w
theorem enable (w : World) : (callFunc 33 #[]).run Try.prog w = .ok (.value (.tuple #[])) w := run_call_mark0 Try.func33 (by kernel_rfl) (by kernel_rfl) (by kernel_rfl) .enable (by kernel_rfl) w
theorem acquire (a : Addr) (w : World) : (callFunc 34 #[.pointer (some a)]).run Try.prog w = .ok (.value (.tuple #[])) w := run_call_marked Try.func34 (by kernel_rfl) (by kernel_rfl) (by kernel_rfl) .acquire (by kernel_rfl) a w
theorem releaseMerge (a : Addr) (w : World) : (callFunc 36 #[.pointer (some a)]).run Try.prog w = .ok (.value (.tuple #[])) w := run_call_marked Try.func36 (by kernel_rfl) (by kernel_rfl) (by kernel_rfl) .releaseMerge (by kernel_rfl) a w

theorem store_deferred (a : Addr) (x : Value) (u : FrameMode) (w : World) (hc : w.cell? a = some x) (hz : w.frozen? a = false) :
    CallsD Try.prog 26 #[.pointer (some a), .bool true] u w fun e u' w' => u' = u ∧ (e = .returned (.tuple #[]) ∧ w' = w.drew.setCell a (.int .u32 1)) := by
  have hc' : w.drew.cell? a = some x := by go_simp
  have hz' : w.drew.frozen? a = false := by go_simp
  have hst := run_call_store (P := Try.prog) Try.func29 (by kernel_rfl) (by kernel_rfl) (by kernel_rfl) (by kernel_rfl) (k := .u32) (y := 1) hc' hz'
  go_enter_d Try.func26, Try.ntmps26
  go_wp2
  go_region_calls
  all_goals (go_end0; exact ⟨rfl, rfl⟩)

theorem unlock_deferred (a : Addr) (u : FrameMode) (w : World) (hc : w.cell? a = some (.int .i32 1)) (hz : w.frozen? a = false) :
    CallsD Try.prog 25 #[.pointer (some a)] u w fun e u' w' => u' = u ∧ (e = .returned (.tuple #[]) ∧ w' = w.setCell a (.int .i32 0)) := by
  have hd := disable
  have he := enable
  have hr := releaseMerge
  have hadd := run_call_add (P := Try.prog) Try.func37 (by kernel_rfl) (by kernel_rfl) (by kernel_rfl) .i32 (by kernel_rfl) (y := -1) (s := 0) hc hz (by simp [go_sem]; rfl)
  have hcv := run_convert_to_unsafe (P := Try.prog) (src := 68) (dst := 72) Try.underlying68 Try.underlying72 (by kernel_rfl) hc
  go_enter_d Try.func25, Try.ntmps25
  go_wp2
  go_end0
  go_wp2
  go_end0
  exact ⟨rfl, rfl⟩

theorem lock_free (a : Addr) (w : World) (hc : w.cell? a = some (.int .i32 0)) (hz : w.frozen? a = false) :
    Calls Try.prog 24 #[.pointer (some a)] w fun e w' => e = .returned (.tuple #[]) ∧ w' = w.setCell a (.int .i32 1) := by
  have hd := disable
  have he := enable
  have ha := acquire
  have hcas := run_call_cas_hit (P := Try.prog) Try.func32 (by kernel_rfl) (by kernel_rfl) (by kernel_rfl) .i32 (by kernel_rfl) (y := 1) hc hz
  have hc' : (w.setCell a (.int .i32 1)).cell? a = some (.int .i32 1) := World.cell?_setCell_same w a _ hc
  have hcv := run_convert_to_unsafe (P := Try.prog) (src := 68) (dst := 72) Try.underlying68 Try.underlying72 (by kernel_rfl) hc'
  go_enter Try.func24, Try.ntmps24
  go_wp2
  first | go_end0 | (simp only [Exit.inBlock, Exit.then]; refine bodyPost_ret (results_none rfl _ _ _) rfl ?_) | refine bodyPost_ret (results_none rfl _ _ _) rfl ?_
  go_wp2
  go_end0
  exact ⟨rfl, rfl⟩
end Go.Proofs.Ytpkbhchgfcediaa
