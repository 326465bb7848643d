/-
  The law's helper 'step': an Op on both disks answers true.
-/
import Derived.Test.YtejpefiblodefaaSim
import Derived.Deep.RegionHeld3
import Derived.KernelRfl
namespace Go.Proofs.Ytejpefiblodefaa
open Go.RowKit

/-- The Op's box, and what lies in it. -/
theorem box_cells (w : World) (o : OpD) (t : TypeId) (w1 : World) (hb : Below (w.alloc (.cells o.cells t)).heap.size (w.alloc (.cells o.cells t)) w1) :
    w1.cell? ⟨w.heap.size, 0, none⟩ = some (.int .u8 (o.kind : Int)) ∧ w1.cell? ⟨w.heap.size, 1, none⟩ = some (.int .i64 o.i) ∧ w1.cell? ⟨w.heap.size, 2, none⟩ = some (.string o.data) ∧ w1.cell? ⟨w.heap.size, 3, none⟩ = some (.slice o.A o.n o.c) := by
  have h : ∀ j, w1.cell? ⟨w.heap.size, j, none⟩ = o.cells[j]? := fun j => (hb.cell (p := ⟨w.heap.size, j, none⟩) (by simp)).trans (World.cell?_alloc_new _ _ _ _)
  exact ⟨h 0, h 1, h 2, h 3⟩

theorem turned_far {w w5 : World} {d b j : Nat} {F G : List Nat} {m' : Dsk.DM} (h : Turned w d F w5 m') (hb : b < w.heap.size) (hF : ∀ x ∈ F ++ G, x ≠ b) : w5.cell? ⟨b, j, none⟩ = w.cell? ⟨b, j, none⟩ := by
  obtain ⟨F', _, h2, _⟩ := h
  exact h2.cell (p := ⟨b, j, none⟩) hb (fun hm => hF b (List.mem_append.2 (.inl hm)) rfl)
theorem turned_lt {w w5 : World} {d b : Nat} {F : List Nat} {m' : Dsk.DM} (h : Turned w d F w5 m') (hb : b < w.heap.size) : b < w5.heap.size := by
  obtain ⟨F', _, h2, _⟩ := h
  exact Nat.lt_of_lt_of_le hb h2.size
theorem rturned_far {w w5 : World} {d b j : Nat} {F G : List Nat} {r' : Dsk.RM} (h : RTurned w d G w5 r') (hb : b < w.heap.size) (hF : ∀ x ∈ F ++ G, x ≠ b) : w5.cell? ⟨b, j, none⟩ = w.cell? ⟨b, j, none⟩ := by
  obtain ⟨F', _, h2, _⟩ := h
  exact h2.cell (p := ⟨b, j, none⟩) hb (fun hm => hF b (List.mem_append.2 (.inr hm)) rfl)
theorem Both.ref_after {w w1 : World} {d rd L : Nat} {F G : List Nat} {m m' : Dsk.DM} {r : Dsk.RM} (h : Both w d F m rd G r L) (t : Turned w d F w1 m') : RefAt w1 rd G r := by
  obtain ⟨F1, _, h2, _⟩ := t
  exact h.ref.only h2 (fun x hx hf => h.apart x hf hx)
theorem rwrite_str (w : World) (d : Nat) (F : List Nat) (r : Dsk.RM) (m : Dsk.DM) (i : Int) (s : ByteArray) (h : RefAt w d F r) (hs : Dsk.Sim m r) (hl2 : s.size ≤ 9223372036854775807) (hn : r.waits.length ≤ 5800000000000) :
    Calls Try.prog 18 #[.pointer (some ⟨d, 0, none⟩), .int .i64 i, .string s] w fun e w' => e = .returned (.int .i64 (m.writeErr i s.size)) ∧ RTurned w d F w' (r.write i (nums s)) := by
  have h1 := rwrite_any w d F r i (nums s) h (nums_lt s) (by rw [nums_length]; exact hl2) hn
  rw [strB_nums, nums_length, hs.writeErr] at h1
  exact h1
theorem Both.read_in {w : World} {d rd L : Nat} {F G : List Nat} {m : Dsk.DM} {r : Dsk.RM} (_h : Both w d F m rd G r L) {i : Int} (hi : m.readErr i = 0) : i.toNat < m.dur.length := by
  unfold Dsk.DM.readErr at hi
  split at hi
  · exact absurd hi (by decide)
  · split at hi
    · exact absurd hi (by decide)
    · omega
theorem Both.dur_in {w : World} {d rd L : Nat} {F G : List Nat} {m : Dsk.DM} {r : Dsk.RM} (_h : Both w d F m rd G r L) {i : Int} (hi : m.durErr i = 0) : i.toNat < m.dur.length := by
  unfold Dsk.DM.durErr at hi
  split at hi
  · exact absurd hi (by decide)
  · omega
theorem BTurned.more {w w1 : World} {d rd L L' : Nat} {F G : List Nat} (h : BTurned w d F rd G w1 L) (hL : L ≤ L') : BTurned w d F rd G w1 L' := by
  obtain ⟨F', m', G', r', h1, h2, h3⟩ := h
  exact ⟨F', m', G', r', ⟨h1.disk, h1.ref, h1.apart, h1.sim, Nat.le_trans h1.len hL⟩, h2, h3⟩
section
variable (w : World) (d rd L : Nat) (F G : List Nat) (m : Dsk.DM) (r : Dsk.RM) (o : OpD)

set_option maxRecDepth 100000 in
set_option maxHeartbeats 1600000 in
theorem step_write (hb : Both w d F m rd G r L) (hL : L ≤ 5800000000000) (ho : OpGood w o) (hk : o.kind % 6 = 0) :
    Calls Try.prog 14 #[.pointer (some ⟨d, 0, none⟩), .pointer (some ⟨rd, 0, none⟩), .agg #[.int .u8 (o.kind : Int), .int .i64 o.i, .string o.data, .slice o.A o.n o.c]] w
      fun e w' => e = .returned (.bool true) ∧ BTurned w d F rd G w' (L + 1) := by
  have kc := fun W => Lib.run_convert_string_bytes (P := Try.prog) W 9 37 5 o.data Try.underlying9 Try.underlying37 Try.underlying5
  have k0 : ((o.kind : Int) % 6 == 0) = true := by simp; omega
  have HO := Lib.hid ho
  have HBo := Lib.hid hb
  have HW := Lib.hid (hb.wl hL)
  clear hk ho hb
  go_enter Try.func14, Try.ntmps14
  go_wp2_with fail
  have BC := Lib.hid (box_cells w o 35 _ (Below.refl _ _))
  have BW := Lib.hid ((Below.refl w.heap.size w).alloc (Nat.le_refl _) (.cells o.cells 35))
  have BF : Hid (∀ x ∈ F ++ G, x ≠ w.heap.size) := fun x hx e => by have := HBo.out.lt x hx; omega
  have blt : w.heap.size < (w.alloc (.cells o.cells 35)).heap.size := by simp
  unfold OpD.cells at BC BW blt
  generalize w.alloc (Obj.cells #[Value.int IntKind.u8 ↑o.kind, Value.int IntKind.i64 o.i, Value.string o.data, Value.slice o.A o.n o.c] 35) = wb at *
  have HB2 := Lib.hid (HBo.out.under BW.out)
  have c1 := BC.out.2.1
  have c2 := BC.out.2.2.1
  have BX := Lib.hid (below_bytesWorld (B := wb.heap.size) wb.drew 5 o.data (Nat.le_refl _))
  have x1 := (BX.out.cell (p := ⟨w.heap.size, 1, none⟩) blt).trans c1
  have x2 := (BX.out.cell (p := ⟨w.heap.size, 2, none⟩) blt).trans c2
  have bltx : w.heap.size < (Lib.bytesWorld wb.drew 5 o.data).heap.size := Nat.lt_of_lt_of_le blt BX.out.size
  have HBX := Lib.hid (HB2.out.under ((Below.refl _ _).drew.trans BX.out))
  have CW := Lib.hid (write_any (Lib.bytesWorld wb.drew 5 o.data) d F m o.i (some ⟨wb.heap.size, 0, none⟩) o.data.size (grownCap wb.drew o.data.size 0 5) (nums o.data) HBX.out.disk (bts_bytesWorld wb.drew _ _ rfl) HO.out.s (fun _ x hx => by injection hx with hx; subst hx; exact fun hm => by have := HB2.out.disk.lt _ hm; simp at this) HW.out.1)
  clear BC
  refine wp_region_noPanic ?_
  refine wp_region_held_drew (S := fun w' => w'.cell? ⟨w.heap.size, 1, none⟩ = some (.int .i64 o.i) ∧ w'.cell? ⟨w.heap.size, 2, none⟩ = some (.string o.data)) (by kernel_rfl) ⟨c1, c2⟩ (fun hHeld => ?_)
  refine wpAnyH_take (i := 0) (v := ?_) rfl (by kernel_rfl) (by kernel_rfl) (by kernel_rfl) (fun _ _ _ h => h) (Or.inl ⟨by rfl, ?_⟩) (by assumption) ?_
  rotate_left
  · (intro wS hSw; (try dsimp only at hSw); go_simp; try with_reducible rfl)
  refine wpAnyH_take (i := 1) (v := ?_) rfl (by kernel_rfl) (by kernel_rfl) (by kernel_rfl) (fun _ _ _ h => h) (Or.inl ⟨by rfl, ?_⟩) (by assumption) ?_
  rotate_left
  · (intro wS hSw; (try dsimp only at hSw); go_simp; try with_reducible rfl)
  refine wpAnyH_take (i := 2) (v := ?_) rfl (by kernel_rfl) (by kernel_rfl) (by kernel_rfl) (fun _ _ _ h => h) (Or.inl ⟨by rfl, ?_⟩) (by assumption) ?_
  rotate_left
  · (intro wS hSw; (try dsimp only at hSw); go_simp; try with_reducible rfl)
  refine wpAnyH_take (i := 3) (v := ?_) rfl (by kernel_rfl) (by kernel_rfl) (by kernel_rfl) (fun _ _ _ h => h) (Or.inl ⟨by rfl, ?_⟩) (by assumption) ?_
  rotate_left
  · (intro wS hSw; (try dsimp only at hSw); go_simp; try with_reducible rfl)
  refine wpAnyH_take (i := 4) (v := ?_) rfl (by kernel_rfl) (by kernel_rfl) (by kernel_rfl) (fun _ _ _ h => h) (Or.inl ⟨by rfl, ?_⟩) (by assumption) ?_
  rotate_left
  · (intro wS hSw; (try dsimp only at hSw); go_simp; try with_reducible rfl)
  refine wpAnyH_take (i := 7) (v := ?_) rfl (by kernel_rfl) (by kernel_rfl) (by kernel_rfl) (fun _ _ _ h => h) (Or.inl ⟨by rfl, ?_⟩) (by assumption) ?_
  rotate_left
  · (intro wS hSw; (try dsimp only at hSw); go_simp; try with_reducible rfl)
  refine wpAnyH_take (i := 8) (v := ?_) rfl (by kernel_rfl) (by kernel_rfl) (by kernel_rfl) (fun _ _ _ h => h) (Or.inl ⟨by rfl, ?_⟩) (by assumption) ?_
  rotate_left
  · (intro wS hSw; (try dsimp only at hSw); go_simp; try with_reducible rfl)
  refine wpAnyH_take (i := 9) (v := ?_) rfl (by kernel_rfl) (by kernel_rfl) (by kernel_rfl) (fun _ _ _ h => h) (Or.inl ⟨by rfl, ?_⟩) (by assumption) ?_
  rotate_left
  · (intro wS hSw; (try dsimp only at hSw); go_simp; try with_reducible rfl)
  refine wpAnyH_take (i := 10) (v := ?_) rfl (by kernel_rfl) (by kernel_rfl) (by kernel_rfl) (fun _ _ _ h => h) (Or.inl ⟨by rfl, ?_⟩) (by assumption) ?_
  rotate_left
  · (intro wS hSw; (try dsimp only at hSw); go_simp; try with_reducible rfl)
  refine wpAnyH_take (i := 11) (v := ?_) rfl (by kernel_rfl) (by kernel_rfl) (by kernel_rfl) (fun _ _ _ h => h) (Or.inl ⟨by rfl, ?_⟩) (by assumption) ?_
  rotate_left
  · (intro wS hSw; (try dsimp only at hSw); go_simp; try with_reducible rfl)
  refine wpAnyH_ready (rs := [5]) (by kernel_rfl) (by simp) ?_
  refine AllReadyH.cons rfl (fun K hK => ?_) AllReadyH.nil
  go_simp
  refine hK.out _ _ ⟨x1, x2⟩ (fun hHeld => ?_)
  clear hK K
  refine wpAnyH_ready (rs := [6]) (by kernel_rfl) (by simp) ?_
  refine AllReadyH.cons rfl (fun K hK => ?_) AllReadyH.nil
  go_simp
  refine CW.out.mono ?_
  rintro e w5 ⟨rfl, ht5⟩
  have T5 := Lib.hid ht5
  have y1 := (turned_far ht5 bltx BF.out).trans x1
  have y2 := (turned_far ht5 bltx BF.out).trans x2
  have blt5 := turned_lt ht5 bltx
  clear ht5
  go_wp2_with fail
  refine hK.out _ _ ⟨y1, y2⟩ (fun hHeld => ?_)
  clear hK K
  refine wpAnyH_ready (rs := [12]) (by kernel_rfl) (by simp) ?_
  refine AllReadyH.cons rfl (fun K hK => ?_) AllReadyH.nil
  go_simp
  refine (rwrite_str _ rd G r m o.i o.data (HBX.out.ref_after T5.out) HBX.out.sim HO.out.s HW.out.2.2).mono ?_
  rintro e w6 ⟨rfl, ht6⟩
  have T6 := Lib.hid ht6
  have z1 := (rturned_far ht6 blt5 BF.out).trans y1
  have z2 := (rturned_far ht6 blt5 BF.out).trans y2
  clear ht6
  go_wp2_with fail
  refine hK.out _ _ ⟨z1, z2⟩ (fun hHeld => ?_)
  clear hK K
  refine wpAnyH_take (i := 13) (v := ?_) rfl (by kernel_rfl) (by kernel_rfl) (by kernel_rfl) (fun _ _ _ h => h) (Or.inl ⟨by rfl, ?_⟩) (by assumption) ?_
  rotate_left
  · (intro wS hSw; (try dsimp only at hSw); go_simp; try with_reducible rfl)
  refine wpAnyH_take (i := 14) (v := ?_) rfl (by kernel_rfl) (by kernel_rfl) (by kernel_rfl) (fun _ _ _ h => h) (Or.inl ⟨by rfl, ?_⟩) (by assumption) ?_
  rotate_left
  · (intro wS hSw; (try dsimp only at hSw); go_simp; try with_reducible rfl)
  refine wpAnyH_done (by kernel_rfl) ?_ _
  refine NoPanic.normal ?_
  have FIN := Lib.hid ((HBX.out.turn T5.out T6.out (HBX.out.sim.write HBX.out.disk.good.f0 o.i (nums o.data)) (Nat.le_trans (Dsk.load_write _ _) (Nat.succ_le_succ HBX.out.len))).before (BW.out.trans (((Below.refl _ _).drew.trans BX.out).mono BW.out.size)))
  go_wp2_with fail
  go_ret
  exact ⟨by simp [Act.put], FIN.out⟩
set_option maxRecDepth 100000 in
set_option maxHeartbeats 1600000 in
theorem step_read (hb : Both w d F m rd G r L) (hL : L ≤ 5800000000000) (ho : OpGood w o) (hk : o.kind % 6 = 1) :
    Calls Try.prog 14 #[.pointer (some ⟨d, 0, none⟩), .pointer (some ⟨rd, 0, none⟩), .agg #[.int .u8 (o.kind : Int), .int .i64 o.i, .string o.data, .slice o.A o.n o.c]] w
      fun e w' => e = .returned (.bool true) ∧ BTurned w d F rd G w' L := by
  have k0 : ((o.kind : Int) % 6 == 0) = false := by simp; omega
  have k1 : ((o.kind : Int) % 6 == 1) = true := by simp; omega
  have HO := Lib.hid ho
  have HBo := Lib.hid hb
  have HW := Lib.hid (hb.wl hL)
  clear hk ho hb
  go_enter Try.func14, Try.ntmps14
  go_wp2_with fail
  have BC := Lib.hid (box_cells w o 35 _ (Below.refl _ _))
  have BW := Lib.hid ((Below.refl w.heap.size w).alloc (Nat.le_refl _) (.cells o.cells 35))
  have BF : Hid (∀ x ∈ F ++ G, x ≠ w.heap.size) := fun x hx e => by have := HBo.out.lt x hx; omega
  have blt : w.heap.size < (w.alloc (.cells o.cells 35)).heap.size := by simp
  unfold OpD.cells at BC BW blt
  generalize w.alloc (Obj.cells #[Value.int IntKind.u8 ↑o.kind, Value.int IntKind.i64 o.i, Value.string o.data, Value.slice o.A o.n o.c] 35) = wb at *
  have HB2 := Lib.hid (HBo.out.under BW.out)
  have c1 := BC.out.2.1
  have c3 := BC.out.2.2.2
  clear BC
  go_wp2_with fail
  by_cases hi : m.readErr o.i = 0
  · refine (read_any _ d F m o.i HB2.out.disk).mono ?_
    intro e w5 ht
    obtain ⟨v, rfl, hf⟩ := ht.ok hi
    have hc5 := (hf.2.2.cell (p := ⟨w.heap.size, 1, none⟩) blt).trans c1
    have HB5 := Lib.hid (HB2.out.under hf.2.2)
    have FF := Lib.hid hf
    have FB := Lib.hid hf.2.2
    have HI := Lib.hid hi
    clear ht hf hi
    go_wp2_with fail
    refine (rread_any _ rd G r o.i HB5.out.ref (by have := HW.out.2.1; omega) (by have := HW.out.2.2; omega)).mono ?_
    rintro e w6 ⟨rfl, hb6⟩
    have hcv := FF.out.toStr (sec_length _) hb6
    have e6 : r.readErr o.i = 0 := by rw [HB2.out.sim.readErr]; exact HI.out
    have B6 := Lib.hid hb6
    have hin := HB2.out.read_in HI.out
    have T6 : Hid (r.readText o.i.toNat = sec (m.seen.getD o.i.toNat [])) := HB2.out.sim.read hin
    rw [e6, if_pos rfl, T6.out]
    clear hb6 e6 hin
    generalize strB (sec (m.seen.getD o.i.toNat [])) = s6 at *
    go_wp2_with fail
    go_ret
    refine ⟨by simp, ?_⟩
    exact (BTurned.before BW.out (HB2.out.same (FB.out.trans (B6.out.mono FB.out.size))))
  · refine (read_any _ d F m o.i HB2.out.disk).mono ?_
    intro e w5 ht
    obtain ⟨rfl, hf⟩ := ht.no hi
    have hc5 := (hf.cell (p := ⟨w.heap.size, 1, none⟩) blt).trans c1
    have HB5 := Lib.hid (HB2.out.under hf)
    have FB := Lib.hid hf
    have HI := Lib.hid hi
    clear ht hf hi
    go_wp2_with fail
    refine (rread_any _ rd G r o.i HB5.out.ref (by have := HW.out.2.1; omega) (by have := HW.out.2.2; omega)).mono ?_
    rintro e w6 ⟨rfl, hb6⟩
    have hcv := (bts_nil w6).toStr byteT Try.underlying9 0
    have e6 : r.readErr o.i = m.readErr o.i := HB2.out.sim.readErr o.i
    have B6 := Lib.hid hb6
    rw [e6, if_neg HI.out]
    rw [strB_nil] at hcv
    clear hb6 e6
    go_wp2_with fail
    go_ret
    refine ⟨by simp, ?_⟩
    exact (BTurned.before BW.out (HB2.out.same (FB.out.trans (B6.out.mono FB.out.size))))

set_option maxRecDepth 100000 in
set_option maxHeartbeats 1600000 in
theorem step_dur (hb : Both w d F m rd G r L) (hL : L ≤ 5800000000000) (ho : OpGood w o) (hk : o.kind % 6 = 5) :
    Calls Try.prog 14 #[.pointer (some ⟨d, 0, none⟩), .pointer (some ⟨rd, 0, none⟩), .agg #[.int .u8 (o.kind : Int), .int .i64 o.i, .string o.data, .slice o.A o.n o.c]] w
      fun e w' => e = .returned (.bool true) ∧ BTurned w d F rd G w' L := by
  have k0 : ((o.kind : Int) % 6 == 0) = false := by simp; omega
  have k1 : ((o.kind : Int) % 6 == 1) = false := by simp; omega
  have k2 : ((o.kind : Int) % 6 == 2) = false := by simp; omega
  have k3 : ((o.kind : Int) % 6 == 3) = false := by simp; omega
  have k4 : ((o.kind : Int) % 6 == 4) = false := by simp; omega
  have HO := Lib.hid ho
  have HBo := Lib.hid hb
  have HW := Lib.hid (hb.wl hL)
  clear hk ho hb
  go_enter Try.func14, Try.ntmps14
  go_wp2_with fail
  have BC := Lib.hid (box_cells w o 35 _ (Below.refl _ _))
  have BW := Lib.hid ((Below.refl w.heap.size w).alloc (Nat.le_refl _) (.cells o.cells 35))
  have BF : Hid (∀ x ∈ F ++ G, x ≠ w.heap.size) := fun x hx e => by have := HBo.out.lt x hx; omega
  have blt : w.heap.size < (w.alloc (.cells o.cells 35)).heap.size := by simp
  unfold OpD.cells at BC BW blt
  generalize w.alloc (Obj.cells #[Value.int IntKind.u8 ↑o.kind, Value.int IntKind.i64 o.i, Value.string o.data, Value.slice o.A o.n o.c] 35) = wb at *
  have HB2 := Lib.hid (HBo.out.under BW.out)
  have c1 := BC.out.2.1
  have c3 := BC.out.2.2.2
  clear BC
  go_wp2_with fail
  by_cases hi : m.durErr o.i = 0
  · refine (durable_any _ d F m o.i HB2.out.disk).mono ?_
    intro e w5 ht
    obtain ⟨v, rfl, hf⟩ := ht.ok hi
    have hc5 := (hf.2.2.cell (p := ⟨w.heap.size, 1, none⟩) blt).trans c1
    have HB5 := Lib.hid (HB2.out.under hf.2.2)
    have FF := Lib.hid hf
    have FB := Lib.hid hf.2.2
    have HI := Lib.hid hi
    clear ht hf hi
    go_wp2_with fail
    refine (rdur_any _ rd G r o.i HB5.out.ref (by have := HW.out.2.1; omega)).mono ?_
    rintro e w6 ⟨rfl, hb6⟩
    have hcv := FF.out.toStr (sec_length _) hb6
    have e6 : r.durErr o.i = 0 := by rw [HB2.out.sim.durErr]; exact HI.out
    have B6 := Lib.hid hb6
    have hin := HB2.out.dur_in HI.out
    have T6 : Hid (r.durText o.i.toNat = sec (m.dur.getD o.i.toNat [])) := HB2.out.sim.done _ hin
    rw [e6, if_pos rfl, T6.out]
    clear hb6 e6 hin
    generalize strB (sec (m.dur.getD o.i.toNat [])) = s6 at *
    go_wp2_with fail
    go_ret
    refine ⟨by simp, ?_⟩
    exact (BTurned.before BW.out (HB2.out.same (FB.out.trans (B6.out.mono FB.out.size))))
  · refine (durable_any _ d F m o.i HB2.out.disk).mono ?_
    intro e w5 ht
    obtain ⟨rfl, hf⟩ := ht.no hi
    have hc5 := (hf.cell (p := ⟨w.heap.size, 1, none⟩) blt).trans c1
    have HB5 := Lib.hid (HB2.out.under hf)
    have FB := Lib.hid hf
    have HI := Lib.hid hi
    clear ht hf hi
    go_wp2_with fail
    refine (rdur_any _ rd G r o.i HB5.out.ref (by have := HW.out.2.1; omega)).mono ?_
    rintro e w6 ⟨rfl, hb6⟩
    have hcv := (bts_nil w6).toStr byteT Try.underlying9 0
    have e6 : r.durErr o.i = m.durErr o.i := HB2.out.sim.durErr o.i
    have B6 := Lib.hid hb6
    rw [e6, if_neg HI.out]
    rw [strB_nil] at hcv
    clear hb6 e6
    go_wp2_with fail
    go_ret
    refine ⟨by simp, ?_⟩
    exact (BTurned.before BW.out (HB2.out.same (FB.out.trans (B6.out.mono FB.out.size))))

set_option maxRecDepth 100000 in
set_option maxHeartbeats 1600000 in
theorem step_flush (hb : Both w d F m rd G r L) (hL : L ≤ 5800000000000) (ho : OpGood w o) (hk : o.kind % 6 = 2) :
    Calls Try.prog 14 #[.pointer (some ⟨d, 0, none⟩), .pointer (some ⟨rd, 0, none⟩), .agg #[.int .u8 (o.kind : Int), .int .i64 o.i, .string o.data, .slice o.A o.n o.c]] w
      fun e w' => e = .returned (.bool true) ∧ BTurned w d F rd G w' (L + 1) := by
  have k0 : ((o.kind : Int) % 6 == 0) = false := by simp; omega
  have k1 : ((o.kind : Int) % 6 == 1) = false := by simp; omega
  have k2 : ((o.kind : Int) % 6 == 2) = true := by simp; omega
  have HO := Lib.hid ho
  have HBo := Lib.hid hb
  have HW := Lib.hid (hb.wl hL)
  clear hk ho hb
  go_enter Try.func14, Try.ntmps14
  go_wp2_with fail
  have BW := Lib.hid ((Below.refl w.heap.size w).alloc (Nat.le_refl _) (.cells o.cells 35))
  unfold OpD.cells at BW
  generalize w.alloc (Obj.cells #[Value.int IntKind.u8 ↑o.kind, Value.int IntKind.i64 o.i, Value.string o.data, Value.slice o.A o.n o.c] 35) = wb at *
  have HB2 := Lib.hid (HBo.out.under BW.out)
  refine (flush_any _ d F m HB2.out.disk HW.out.1).mono ?_
  rintro e w5 ⟨rfl, ht5⟩
  have T5 := Lib.hid ht5
  clear ht5
  go_wp2_with fail
  refine (rflush_any _ rd G r (HB2.out.ref_after T5.out) HW.out.2.1).mono ?_
  rintro e w6 ⟨rfl, ht6⟩
  have T6 := Lib.hid ht6
  have e6 := HB2.out.sim.flushErr
  rw [e6]
  clear ht6 e6
  go_wp2_with fail
  go_ret
  exact ⟨by simp, BTurned.before BW.out (HB2.out.turn T5.out T6.out (HB2.out.sim.flush HB2.out.disk.good.f0) (Nat.le_trans (Dsk.load_flush HB2.out.sim) (Nat.le_trans HB2.out.len (Nat.le_succ L))))⟩

set_option maxRecDepth 100000 in
set_option maxHeartbeats 1600000 in
theorem step_crash (hb : Both w d F m rd G r L) (hL : L ≤ 5800000000000) (ho : OpGood w o) (hk : o.kind % 6 = 3) (hA : 0 < o.n → ∀ a, o.A = some a → a.block ∉ F ++ G) :
    Calls Try.prog 14 #[.pointer (some ⟨d, 0, none⟩), .pointer (some ⟨rd, 0, none⟩), .agg #[.int .u8 (o.kind : Int), .int .i64 o.i, .string o.data, .slice o.A o.n o.c]] w
      fun e w' => e = .returned (.bool true) ∧ BTurned w d F rd G w' (L + 1) := by
  have k0 : ((o.kind : Int) % 6 == 0) = false := by simp; omega
  have k1 : ((o.kind : Int) % 6 == 1) = false := by simp; omega
  have k2 : ((o.kind : Int) % 6 == 2) = false := by simp; omega
  have k3 : ((o.kind : Int) % 6 == 3) = true := by simp; omega
  have HO := Lib.hid ho
  have HBo := Lib.hid hb
  have HW := Lib.hid (hb.wl hL)
  have HA := Lib.hid hA
  clear hk ho hb hA
  go_enter Try.func14, Try.ntmps14
  go_wp2_with fail
  have BC := Lib.hid (box_cells w o 35 _ (Below.refl _ _))
  have BW := Lib.hid ((Below.refl w.heap.size w).alloc (Nat.le_refl _) (.cells o.cells 35))
  have BF : Hid (∀ x ∈ F ++ G, x ≠ w.heap.size) := fun x hx e => by have := HBo.out.lt x hx; omega
  have blt : w.heap.size < (w.alloc (.cells o.cells 35)).heap.size := by simp
  unfold OpD.cells at BC BW blt
  generalize w.alloc (Obj.cells #[Value.int IntKind.u8 ↑o.kind, Value.int IntKind.i64 o.i, Value.string o.data, Value.slice o.A o.n o.c] 35) = wb at *
  have HB2 := Lib.hid (HBo.out.under BW.out)
  have c1 := BC.out.2.1
  have c3 := BC.out.2.2.2
  clear BC
  refine (crash_any _ d F m o.A o.n o.c o.keep HB2.out.disk (HO.out.kept BW.out).keep HO.out.n (fun h0 a ha hm => HA.out h0 a ha (List.mem_append.2 (.inl hm))) HW.out.1).mono ?_
  rintro e w5 ⟨rfl, ht5⟩
  have T5 := Lib.hid ht5
  have y3 := (turned_far ht5 blt BF.out).trans c3
  have K5 : Hid (Bls w5 o.A o.n o.keep) := by obtain ⟨F5, _, h2, _⟩ := ht5; exact h2.bls (HO.out.kept BW.out).keep (fun h0 a ha hm => HA.out h0 a ha (List.mem_append.2 (.inl hm)))
  clear ht5
  go_wp2_with fail
  refine (rcrash_any _ rd G r o.A o.n o.c o.keep (HB2.out.ref_after T5.out) K5.out (fun h0 a ha hm => HA.out h0 a ha (List.mem_append.2 (.inr hm))) HW.out.2.1).mono ?_
  rintro e w6 ⟨rfl, ht6⟩
  have T6 := Lib.hid ht6
  clear ht6
  go_wp2_with fail
  go_ret
  exact ⟨by simp, BTurned.before BW.out (HB2.out.turn T5.out T6.out (HB2.out.sim.crash o.keep) (Nat.le_trans (Dsk.load_crash HB2.out.sim o.keep) (Nat.le_trans HB2.out.len (Nat.le_succ L))))⟩
set_option maxRecDepth 100000 in
set_option maxHeartbeats 1600000 in
theorem step_fuel (hb : Both w d F m rd G r L) (ho : OpGood w o) (hk : o.kind % 6 = 4) :
    Calls Try.prog 14 #[.pointer (some ⟨d, 0, none⟩), .pointer (some ⟨rd, 0, none⟩), .agg #[.int .u8 (o.kind : Int), .int .i64 o.i, .string o.data, .slice o.A o.n o.c]] w
      fun e w' => e = .returned (.bool true) ∧ BTurned w d F rd G w' (L + 1) := by
  have k0 : ((o.kind : Int) % 6 == 0) = false := by simp; omega
  have k1 : ((o.kind : Int) % 6 == 1) = false := by simp; omega
  have k2 : ((o.kind : Int) % 6 == 2) = false := by simp; omega
  have k3 : ((o.kind : Int) % 6 == 3) = false := by simp; omega
  have k4 : ((o.kind : Int) % 6 == 4) = true := by simp; omega
  have HO := Lib.hid ho
  have HBo := Lib.hid hb
  have hi1 := ho.i1
  clear hk ho hb
  by_cases hneg : o.i ≤ -1
  all_goals
    go_enter Try.func14, Try.ntmps14
    go_wp2_with fail
    have BC := Lib.hid (box_cells w o 35 _ (Below.refl _ _))
    have BW := Lib.hid ((Below.refl w.heap.size w).alloc (Nat.le_refl _) (.cells o.cells 35))
    have BF : Hid (∀ x ∈ F ++ G, x ≠ w.heap.size) := fun x hx e => by have := HBo.out.lt x hx; omega
    have blt : w.heap.size < (w.alloc (.cells o.cells 35)).heap.size := by simp
    unfold OpD.cells at BC BW blt
    generalize w.alloc (Obj.cells #[Value.int IntKind.u8 ↑o.kind, Value.int IntKind.i64 o.i, Value.string o.data, Value.slice o.A o.n o.c] 35) = wb at *
    have HB2 := Lib.hid (HBo.out.under BW.out)
    have c1 := BC.out.2.1
    clear BC
    refine (fuel_any _ d F m o.i hi1 HB2.out.disk).mono ?_
    rintro e w5 ⟨rfl, ht5⟩
    have T5 := Lib.hid ht5
    have y1 := (turned_far ht5 blt BF.out).trans c1
    obtain ⟨vd, vw, hR, hG⟩ := HB2.out.ref_after ht5
    have q3 := hR.cells.2.2.2.1
    have f3 := hR.blk.frozen 3
    have E : Hid (∀ x : Int, max o.i (-1) = x → BTurned w d F rd G (w5.setCell ⟨rd, 3, none⟩ (.int .i64 x)) (L + 1)) := fun x hx => by
      have h1 := hR.stored (r' := r.setFuel o.i) 3 (.int .i64 x) (by rw [← hx]; rfl) rfl rfl rfl (by show -1 ≤ max o.i (-1); omega) (by show max o.i (-1) ≤ _; omega)
      have h2 : RTurned w5 rd G (w5.setCell ⟨rd, 3, none⟩ (.int .i64 x)) (r.setFuel o.i) := ⟨_, ⟨_, _, h1, rfl⟩, by rw [hG]; exact ref_only _, fun x hx => .inl (by rw [hG]; exact hx)⟩
      exact BTurned.before BW.out (HB2.out.turn T5.out h2 (HB2.out.sim.setFuel o.i) (Nat.le_trans HB2.out.len (Nat.le_succ L)))
    clear ht5 hR hG
    go_wp2_with fail
    all_goals
      go_ret
      first
        | (exfalso; omega)
        | exact ⟨by simp, E.out _ (by omega)⟩

theorem step_any (hb : Both w d F m rd G r L) (hL : L ≤ 5800000000000) (ho : OpGood w o) (hA : 0 < o.n → ∀ a, o.A = some a → a.block ∉ F ++ G) :
    Calls Try.prog 14 #[.pointer (some ⟨d, 0, none⟩), .pointer (some ⟨rd, 0, none⟩), .agg #[.int .u8 (o.kind : Int), .int .i64 o.i, .string o.data, .slice o.A o.n o.c]] w
      fun e w' => e = .returned (.bool true) ∧ BTurned w d F rd G w' (L + 1) := by
  have h6 : o.kind % 6 < 6 := Nat.mod_lt _ (by omega)
  by_cases h0 : o.kind % 6 = 0
  · exact step_write w d rd L F G m r o hb hL ho h0
  by_cases h1 : o.kind % 6 = 1
  · exact (step_read w d rd L F G m r o hb hL ho h1).mono fun _ _ h => ⟨h.1, h.2.more (Nat.le_succ L)⟩
  by_cases h2 : o.kind % 6 = 2
  · exact step_flush w d rd L F G m r o hb hL ho h2
  by_cases h3 : o.kind % 6 = 3
  · exact step_crash w d rd L F G m r o hb hL ho h3 hA
  by_cases h4 : o.kind % 6 = 4
  · exact step_fuel w d rd L F G m r o hb ho h4
  · exact (step_dur w d rd L F G m r o hb hL ho (by omega)).mono fun _ _ h => ⟨h.1, h.2.more (Nat.le_succ L)⟩
end
end Go.Proofs.Ytejpefiblodefaa
