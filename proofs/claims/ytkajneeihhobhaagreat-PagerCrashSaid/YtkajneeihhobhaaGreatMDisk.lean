/-
  A disk in memory (DiskAt: its blocks, what they hold), and the contracts of its small calls: Size, Pending, Dead, Fuel, has, burn, whole. · The contracts of a disk's Write, Flush and Crash. · The contracts of a disk's Flush and Crash. · The contracts of disk.New and of a disk's Clone; and of the calls on a nil disk. · The document's examples of chapter 2: 'fixed' answers true, and writes nothing that was there. · The laws' arguments of layer 2, opened: slices of bools, an Op by value, slices of Ops.
-/
import Derived.Test.YtkajneeihhobhaaGreatRows
import Derived.Test.YtkajneeihhobhaaGreatMMath
import Derived.Test.YtkajneeihhobhaaGreatMBase
import Derived.WalkKit
import Derived.WalkSpells
import Derived.WalkLawsBesides
import Derived.Lib.Hide
import Derived.Outline
import Derived.Lib.LazyBuf
import Derived.Laws.MakeOwn
import Derived.RegionTactic
import Derived.Deep.RegionLaw
import Derived.Deep.RegionWith
import Derived.Deep.QuietTactic
import Derived.BigQuiet
import Derived.LoopTactic
import Derived.Lib.SlBytesConst
import Derived.Laws.NewBlocks
import Derived.Lib.SmallJoins
import Derived.Lib.ConvBytes
import Derived.Deep.Slices
import Derived.Deep.Grids
namespace Go.Proofs.YtkajneeihhobhaaGreat
open Go.RowKit

/-- The cells of the writes that wait. -/
def waitCells (w : List (Nat × List Nat)) : List Value := w.flatMap fun p => [.int .i64 (p.1 : Int), strV p.2]

/-- A disk in block d: its sectors in blocks gd (durable) and gs (seen), what waits in the row vw. -/
structure DiskIs (w : World) (d gd cd gs cs : Nat) (vw : Value) (m : Dsk.DM) : Prop where
  blk : Held w d 80 #[.slice (some ⟨gd, 0, none⟩) m.dur.length cd, .slice (some ⟨gs, 0, none⟩) m.dur.length cs, vw, .int .i64 m.fuel, .bool m.dead]
  dur : w.ownsRow 0 9 1 (.slice (some ⟨gd, 0, none⟩) m.dur.length cd) m.dur.length (m.dur.map strV)
  seen : w.ownsRow 0 9 1 (.slice (some ⟨gs, 0, none⟩) m.dur.length cs) m.dur.length (m.seen.map strV)
  wait : w.ownsRow 0 105 2 vw m.wait.length (waitCells m.wait)
  ne : gd ≠ gs
  good : m.Good

/-- The blocks of a disk. -/
def diskFoot (d gd gs : Nat) (vw : Value) : List Nat := d :: gd :: gs :: vw.ownBlock.toList

theorem mem_foot {d gd gs x : Nat} {vw : Value} : x ∈ diskFoot d gd gs vw ↔ x = d ∨ x = gd ∨ x = gs ∨ vw.ownBlock = some x := by
  simp only [diskFoot, List.mem_cons, Option.mem_toList]

/-- In w a disk like m lies at block d, on the blocks F. -/
def DiskAt (w : World) (d : Nat) (F : List Nat) (m : Dsk.DM) : Prop := ∃ gd cd gs cs vw, DiskIs w d gd cd gs cs vw m ∧ F = diskFoot d gd gs vw

theorem waitCells_length (w : List (Nat × List Nat)) : (waitCells w).length = w.length * 2 := by
  induction w with
  | nil => rfl
  | cons p r ih => simp only [waitCells, List.flatMap_cons, List.length_append, List.length_cons, List.length_nil] at ih ⊢; omega
theorem waitCells_snoc (w : List (Nat × List Nat)) (p : Nat × List Nat) : waitCells (w ++ [p]) = waitCells w ++ [.int .i64 (p.1 : Int), strV p.2] := by simp [waitCells]
theorem waitCells_at (w : List (Nat × List Nat)) : ∀ k p, w[k]? = some p → (waitCells w)[k * 2]? = some (.int .i64 (p.1 : Int)) ∧ (waitCells w)[k * 2 + 1]? = some (strV p.2) := by
  induction w with
  | nil => intro k p h; simp at h
  | cons q r ih =>
    intro k p h
    cases k with
    | zero => simp at h; subst h; exact ⟨rfl, rfl⟩
    | succ k =>
      have h' := ih k p (by simpa using h)
      have e1 : (k + 1) * 2 = k * 2 + 1 + 1 := by omega
      have e : ∀ j, (waitCells (q :: r))[j + 1 + 1]? = (waitCells r)[j]? := fun j => rfl
      rw [e1]
      exact ⟨(e _).trans h'.1, (e (k * 2 + 1)).trans h'.2⟩

theorem strV_oneCell (l : List Nat) : (strV l).oneCell' = true := rfl

section
variable {w w' : World} {d gd cd gs cs : Nat} {vw : Value} {m : Dsk.DM} {F G : List Nat}

theorem DiskIs.ne_d (h : DiskIs w d gd cd gs cs vw m) : gd ≠ d ∧ gs ≠ d ∧ (∀ b, vw.ownBlock = some b → b ≠ d ∧ b ≠ gd ∧ b ≠ gs) :=
  ⟨h.blk.ne_row h.dur (by decide) gd rfl, h.blk.ne_row h.seen (by decide) gs rfl, fun b hb =>
    ⟨h.blk.ne_row h.wait (by decide) b hb, fun e => rows_ne h.wait h.dur (by decide) b hb (by rw [e]; rfl), fun e => rows_ne h.wait h.seen (by decide) b hb (by rw [e]; rfl)⟩⟩
theorem DiskIs.only (h : DiskIs w d gd cd gs cs vw m) (k : Only G w w') (hG : ∀ x ∈ diskFoot d gd gs vw, x ∉ G) : DiskIs w' d gd cd gs cs vw m where
  blk := h.blk.only k (hG _ (by simp [diskFoot]))
  dur := k.row h.dur fun g hg => by
    have : gd = g := by simpa [Value.ownBlock] using hg
    subst this
    exact hG _ (by simp [diskFoot])
  seen := k.row h.seen fun g hg => by
    have : gs = g := by simpa [Value.ownBlock] using hg
    subst this
    exact hG _ (by simp [diskFoot])
  wait := k.row h.wait fun g hg => hG _ (by simp [diskFoot, hg])
  ne := h.ne
  good := h.good
theorem DiskIs.lt (h : DiskIs w d gd cd gs cs vw m) : ∀ x ∈ diskFoot d gd gs vw, x < w.heap.size := by
  intro x hx
  simp only [diskFoot, List.mem_cons, Option.mem_toList] at hx
  rcases hx with rfl | rfl | rfl | hx
  · exact h.blk.lt
  · exact (h.dur.lt _ rfl).2
  · exact (h.seen.lt _ rfl).2
  · exact (h.wait.lt _ hx).2
theorem DiskAt.only (h : DiskAt w d F m) (k : Only G w w') (hG : ∀ x ∈ F, x ∉ G) : DiskAt w' d F m := by
  obtain ⟨gd, cd, gs, cs, vw, h, rfl⟩ := h
  exact ⟨gd, cd, gs, cs, vw, h.only k hG, rfl⟩
theorem DiskAt.lt (h : DiskAt w d F m) : ∀ x ∈ F, x < w.heap.size := by
  obtain ⟨gd, cd, gs, cs, vw, h, rfl⟩ := h
  exact h.lt
theorem DiskAt.good (h : DiskAt w d F m) : m.Good := by
  obtain ⟨gd, cd, gs, cs, vw, h, rfl⟩ := h
  exact h.good
theorem DiskAt.mem (h : DiskAt w d F m) : d ∈ F := by
  obtain ⟨gd, cd, gs, cs, vw, h, rfl⟩ := h
  simp [diskFoot]
theorem DiskAt.drew (h : DiskAt w d F m) : DiskAt w.drew d F m := h.only ((Only.refl [] w).drew) (fun _ _ hx => by cases hx)
theorem DiskAt.drewN (h : DiskAt w d F m) (n : Nat) : DiskAt (w.drewN n) d F m := h.only ((Only.refl [] w).drewN n) (fun _ _ hx => by cases hx)
theorem DiskAt.alloc (h : DiskAt w d F m) (o : Obj) : DiskAt (w.alloc o) d F m := h.only ((Only.refl [] w).alloc o) (fun _ _ hx => by cases hx)
theorem DiskAt.below (h : DiskAt w d F m) (k : Below w.heap.size w w') : DiskAt w' d F m := h.only (Only.of_below (F := []) k) (fun _ _ hx => by cases hx)

/-- What a call on a disk leaves: a disk like m', on its own blocks or new ones, and all else as it was. -/
def Turned (w : World) (d : Nat) (F : List Nat) (w' : World) (m' : Dsk.DM) : Prop := ∃ F', DiskAt w' d F' m' ∧ Only F w w' ∧ ∀ x ∈ F', x ∈ F ∨ w.heap.size ≤ x
theorem Turned.refl (h : DiskAt w d F m) : Turned w d F w m := ⟨F, h, Only.refl _ _, fun _ hx => .inl hx⟩

/-- The cells of the disk's own block. -/
theorem DiskIs.cells (h : DiskIs w d gd cd gs cs vw m) : w.cell? ⟨d, 0, none⟩ = some (.slice (some ⟨gd, 0, none⟩) m.dur.length cd) ∧ w.cell? ⟨d, 1, none⟩ = some (.slice (some ⟨gs, 0, none⟩) m.dur.length cs) ∧
    w.cell? ⟨d, 2, none⟩ = some vw ∧ w.cell? ⟨d, 3, none⟩ = some (.int .i64 m.fuel) ∧ w.cell? ⟨d, 4, none⟩ = some (.bool m.dead) :=
  ⟨h.blk.cell 0, h.blk.cell 1, h.blk.cell 2, h.blk.cell 3, h.blk.cell 4⟩
/-- The row of what waits, as a slice. -/
theorem DiskIs.vw_form (h : DiskIs w d gd cd gs cs vw m) : ∃ A c, vw = .slice A m.wait.length c := by
  rcases h.wait.2 with ⟨h1, h2⟩ | ⟨g, cap, cur, h1, _⟩
  · exact ⟨none, 0, by rw [h1, h2]⟩
  · exact ⟨_, cap, h1⟩
end

theorem size_any (w : World) (d : Nat) (F : List Nat) (m : Dsk.DM) (h : DiskAt w d F m) :
    Calls Tryz.prog 24 #[.pointer (some ⟨d, 0, none⟩)] w fun e w' => e = .returned (.int .i64 (m.dur.length : Int)) ∧ w = w' := by
  obtain ⟨gd, cd, gs, cs, vw, h, rfl⟩ := h
  have c0 := h.cells.1
  clear h
  go_enter Tryz.func24, Tryz.ntmps24
  go_wp2
  go_ret
  exact ⟨rfl, rfl⟩
theorem dead_any (w : World) (d : Nat) (F : List Nat) (m : Dsk.DM) (h : DiskAt w d F m) :
    Calls Tryz.prog 32 #[.pointer (some ⟨d, 0, none⟩)] w fun e w' => e = .returned (.bool m.dead) ∧ w = w' := by
  obtain ⟨gd, cd, gs, cs, vw, h, rfl⟩ := h
  have c0 := h.cells.2.2.2.2
  clear h
  go_enter Tryz.func32, Tryz.ntmps32
  go_wp2
  go_ret
  exact ⟨rfl, rfl⟩
theorem has_any (w : World) (d : Nat) (F : List Nat) (m : Dsk.DM) (i : Int) (h : DiskAt w d F m) :
    Calls Tryz.prog 75 #[.pointer (some ⟨d, 0, none⟩), .int .i64 i] w fun e w' => e = .returned (.bool (decide (0 ≤ i ∧ i < m.dur.length))) ∧ w = w' := by
  obtain ⟨gd, cd, gs, cs, vw, h, rfl⟩ := h
  have c0 := h.cells.1
  clear h
  by_cases h0 : 0 ≤ i
  · go_enter Tryz.func75, Tryz.ntmps75
    go_wp2
    go_ret
    refine ⟨?_, rfl⟩
    simp [h0]
  · go_enter Tryz.func75, Tryz.ntmps75
    have h0' : decide (0 ≤ i) = false := by simpa using h0
    go_wp2
    go_ret
    refine ⟨?_, rfl⟩
    simp

/-- A store into the disk's own block, at a field that is no slice. -/
theorem DiskIs.stored {w : World} {d gd cd gs cs : Nat} {vw : Value} {m m' : Dsk.DM} (h : DiskIs w d gd cd gs cs vw m) (i : Nat) (u : Value)
    (hb : (#[.slice (some ⟨gd, 0, none⟩) m.dur.length cd, .slice (some ⟨gs, 0, none⟩) m.dur.length cs, vw, .int .i64 m.fuel, .bool m.dead] : Array Value).setIfInBounds i u =
      #[.slice (some ⟨gd, 0, none⟩) m'.dur.length cd, .slice (some ⟨gs, 0, none⟩) m'.dur.length cs, vw, .int .i64 m'.fuel, .bool m'.dead])
    (hd : m'.dur = m.dur) (hw : m'.wait = m.wait) (hg : m'.Good) : DiskIs (w.setCell ⟨d, i, none⟩ u) d gd cd gs cs vw m' where
  blk := by rw [← hb]; exact h.blk.set_ i u
  dur := by rw [hd]; exact ownsRow_far h.dur (fun g hg e => by have := h.ne_d.1; simp [Value.ownBlock] at hg e; omega) u
  seen := by
    have e : m'.seen = m.seen := by simp [Dsk.DM.seen, hd, hw]
    rw [hd, e]
    exact ownsRow_far h.seen (fun g hg e => by have := h.ne_d.2.1; simp [Value.ownBlock] at hg e; omega) u
  wait := by rw [hw]; exact ownsRow_far h.wait (fun g hg e => (h.ne_d.2.2 g hg).1 e) u
  ne := h.ne
  good := hg
theorem DiskIs.stored_only {w : World} {d gd gs i : Nat} {vw : Value} (u : Value) : Only (diskFoot d gd gs vw) w (w.setCell ⟨d, i, none⟩ u) := (Only.refl _ w).setCell (.inl (by simp [diskFoot])) u

theorem fuel_any (w : World) (d : Nat) (F : List Nat) (m : Dsk.DM) (x : Int) (hx : x ≤ 9223372036854775807) (h : DiskAt w d F m) :
    Calls Tryz.prog 25 #[.pointer (some ⟨d, 0, none⟩), .int .i64 x] w fun e w' => e = .returned (.tuple #[]) ∧ Turned w d F w' (m.setFuel x) := by
  obtain ⟨gd, cd, gs, cs, vw, h, rfl⟩ := h
  have e1 : max x (-1) = x → Turned w d (diskFoot d gd gs vw) (w.setCell ⟨d, 3, none⟩ (.int .i64 x)) (m.setFuel x) := fun e =>
    ⟨_, ⟨gd, cd, gs, cs, vw, h.stored (m' := m.setFuel x) 3 _ (by simp [Dsk.DM.setFuel, e]) rfl rfl (h.good.setFuel hx), rfl⟩, DiskIs.stored_only _, fun _ hx => .inl hx⟩
  have e2 : max x (-1) = -1 → Turned w d (diskFoot d gd gs vw) (w.setCell ⟨d, 3, none⟩ (.int .i64 (-1))) (m.setFuel x) := fun e =>
    ⟨_, ⟨gd, cd, gs, cs, vw, h.stored (m' := m.setFuel x) 3 _ (by simp [Dsk.DM.setFuel, e]) rfl rfl (h.good.setFuel hx), rfl⟩, DiskIs.stored_only _, fun _ hx => .inl hx⟩
  have E1 := Lib.hid e1
  have E2 := Lib.hid e2
  have c0 := h.cells.2.2.2.1
  have f0 := h.blk.frozen 3
  clear h e1 e2
  by_cases hc : x ≤ -1
  all_goals
    go_enter Tryz.func25, Tryz.ntmps25
    go_wp2
    all_goals
      go_end0
      first
        | (exfalso; omega)
        | exact ⟨rfl, E1.out (by omega)⟩
        | exact ⟨rfl, E2.out (by omega)⟩

theorem burn_any (w : World) (d : Nat) (F : List Nat) (m : Dsk.DM) (h : DiskAt w d F m) :
    Calls Tryz.prog 55 #[.pointer (some ⟨d, 0, none⟩)] w fun e w' => e = .returned (.bool (!m.burn.dead)) ∧ Turned w d F w' m.burn := by
  obtain ⟨gd, cd, gs, cs, vw, h, rfl⟩ := h
  have H := Lib.hid h
  have c3 := h.cells.2.2.2.1
  have c4 := h.cells.2.2.2.2
  have f3 := h.blk.frozen 3
  have f4 := h.blk.frozen 4
  have g0 := h.good.f0
  have g1 := h.good.f1
  clear h
  by_cases h1 : m.fuel = -1
  · have hm : m.burn = m := by unfold Dsk.DM.burn; rw [if_pos h1]
    rw [hm]
    clear hm
    have h1' : (m.fuel == -1) = true := by simpa using h1
    clear h1
    go_enter Tryz.func55, Tryz.ntmps55
    go_wp2
    go_ret
    exact ⟨rfl, Turned.refl ⟨_, _, _, _, _, H.out, rfl⟩⟩
  · have h1' : (m.fuel == -1) = false := by simpa using h1
    by_cases h2 : m.fuel = 0
    · have hm : m.burn = { m with dead := true } := by unfold Dsk.DM.burn; rw [if_neg h1, if_pos h2]
      rw [hm]
      have h2' : (m.fuel == 0) = true := by simpa using h2
      have D := Lib.hid (H.out.stored (m' := { m with dead := true }) 4 (.bool true) rfl rfl rfl (hm ▸ H.out.good.burn))
      clear h1 h2 hm
      go_enter Tryz.func55, Tryz.ntmps55
      go_wp2
      go_ret
      exact ⟨rfl, _, ⟨_, _, _, _, _, D.out, rfl⟩, DiskIs.stored_only _, fun _ hx => .inl hx⟩
    · have hm : m.burn = { m with fuel := m.fuel - 1 } := by unfold Dsk.DM.burn; rw [if_neg h1, if_neg h2]
      rw [hm]
      have h2' : (m.fuel == 0) = false := by simpa using h2
      have D := Lib.hid (H.out.stored (m' := { m with fuel := m.fuel - 1 }) 3 (.int .i64 (m.fuel - 1)) rfl rfl rfl (hm ▸ H.out.good.burn))
      clear h1 h2 hm
      go_enter Tryz.func55, Tryz.ntmps55
      go_wp2
      go_ret
      exact ⟨rfl, _, ⟨_, _, _, _, _, D.out, rfl⟩, DiskIs.stored_only _, fun _ hx => .inl hx⟩

theorem cells5 : Tryz.prog.cellsOf 5 = 1 := by kernel_rfl
theorem info5 : (Tryz.prog.info? 5).map (fun i => (i.zero, i.size, i.bytes)) = some (some (.int .u8 0), 1, 1) := by kernel_rfl
theorem byteT : ByteT Tryz.prog 56 5 := ⟨Tryz.underlying56, Tryz.underlying5, cells5, info5⟩

/-- A fresh slice of bytes, behind a call: 512 bytes in the first new block. -/
def Fresh512 (w : World) (l : List Nat) (v : Value) (w' : World) : Prop := v = .slice (some ⟨w.heap.size, 0, none⟩) 512 512 ∧ OwnB w' w.heap.size 5 v l ∧ Below w.heap.size w w'

set_option maxRecDepth 100000 in
theorem whole_any (w : World) (l : List Nat) (hl : ∀ x ∈ l, x < 256) (hs : l.length ≤ 512) :
    Calls Tryz.prog 92 #[strV l] w fun e w' => e = .returned (.slice (some ⟨w.heap.size, 0, none⟩) 512 512) ∧ Fresh512 w (sec l) (.slice (some ⟨w.heap.size, 0, none⟩) 512 512) w' := by
  have hl' := Lib.hid hl
  clear hl
  unfold strV
  have hmk : ∀ u, (Instr.makeSlice 56 (.int .i64 512) (.int .i64 512)).run Tryz.prog u = .ok (.slice (some ⟨u.heap.size, 0, none⟩) 512 512) (u.alloc (.cells (madeCells #[.int .u8 0] 512) 5)) := fun u => run_make_bts byteT 512 (by omega) .i64 .i64 u
  have HZ := Lib.hid (own_zeros (e := 5) w 512 (by simp [maxLen]) w.heap.size rfl w.heap.size (Nat.le_refl _))
  go_enter Tryz.func92, Tryz.ntmps92
  go_wp2_with (refine wpList_copy_str byteT (o := ⟨some 7, _, _, _, _, _⟩) rfl (.tmp 5) (.tmp 6) 9 rfl rfl rfl HZ.out List.length_replicate hs hl'.out ?_; intro w1 ho hg)
  go_ret
  refine ⟨rfl, rfl, ?_, ?_⟩
  · rw [sec_short hs]
    have e : (List.replicate 512 0).drop l.length = List.replicate (512 - l.length) 0 := by rw [List.drop_replicate]
    rw [e] at ho
    exact ho
  · exact ((Below.refl _ _).alloc (Nat.le_refl _) _).grown hg (by simp) (fun k hk => by injection hk with hk; omega)

/-- What Read and Durable answer: nothing and an error, or 512 bytes of the call's own. -/
def Tells (w : World) (x : Int) (l : List Nat) (e : Ending) (w' : World) : Prop :=
  (x ≠ 0 ∧ e = .returned (.tuple #[.slice none 0 0, .int .i64 x]) ∧ Below w.heap.size w w') ∨
  (x = 0 ∧ ∃ v, e = .returned (.tuple #[v, .int .i64 0]) ∧ Fresh512 w (sec l) v w')

theorem strs_at {w : World} {g n c : Nat} {l : List (List Nat)} (h : w.ownsRow 0 9 1 (.slice (some ⟨g, 0, none⟩) n c) n (l.map strV)) (hl : l.length = n) {i : Nat} (hi : i < n) : w.cell? ⟨g, i, none⟩ = some (strV (l.getD i [])) := by
  rw [h.cellAt i (by omega), List.getElem?_map, List.getElem?_eq_getElem (by omega), List.getD_eq_getElem?_getD, List.getElem?_eq_getElem (by omega)]
  rfl

theorem has_yes (w : World) (d : Nat) (F : List Nat) (m : Dsk.DM) (i : Int) (h : DiskAt w d F m) (hi : 0 ≤ i ∧ i < m.dur.length) :
    Calls Tryz.prog 75 #[.pointer (some ⟨d, 0, none⟩), .int .i64 i] w fun e w' => e = .returned (.bool true) ∧ w = w' :=
  (has_any w d F m i h).mono fun e w' ⟨h1, h2⟩ => ⟨by rw [h1, decide_eq_true hi], h2⟩
theorem has_no (w : World) (d : Nat) (F : List Nat) (m : Dsk.DM) (i : Int) (h : DiskAt w d F m) (hi : ¬ (0 ≤ i ∧ i < m.dur.length)) :
    Calls Tryz.prog 75 #[.pointer (some ⟨d, 0, none⟩), .int .i64 i] w fun e w' => e = .returned (.bool false) ∧ w = w' :=
  (has_any w d F m i h).mono fun e w' ⟨h1, h2⟩ => ⟨by rw [h1, decide_eq_false hi], h2⟩

set_option maxHeartbeats 400000 in
theorem read_any (w : World) (d : Nat) (F : List Nat) (m : Dsk.DM) (i : Int) (h : DiskAt w d F m) :
    Calls Tryz.prog 74 #[.pointer (some ⟨d, 0, none⟩), .int .i64 i] w (Tells w (m.readErr i) (m.seen.getD i.toNat [])) := by
  have HH := Lib.hid h
  obtain ⟨gd, cd, gs, cs, vw, h, rfl⟩ := h
  have c1 := h.cells.2.1
  have c4 := h.cells.2.2.2.2
  by_cases hd : m.dead = true
  · have e : m.readErr i = 10 := by simp [Dsk.DM.readErr, hd]
    rw [e]
    clear e h HH
    go_enter Tryz.func74, Tryz.ntmps74
    go_wp2
    go_ret2
    exact .inl ⟨by decide, rfl, Below.refl _ _⟩
  · have hd' : m.dead = false := by simpa using hd
    by_cases hi : 0 ≤ i ∧ i < m.dur.length
    · have e : m.readErr i = 0 := by simp [Dsk.DM.readErr, hd', hi]
      rw [e]
      obtain ⟨k, rfl⟩ := Int.eq_ofNat_of_zero_le hi.1
      have hk : k < m.dur.length := by omega
      have hx := strs_at h.seen (by rw [Dsk.DM.seen_length]) hk
      have HY := Lib.hid (has_yes w d _ m (k : Int) HH.out hi)
      have HL := Lib.hid (h.good.seen_short.getD k)
      have HB := Lib.hid (h.good.seen_bytes.getD k)
      have h0 : (0 : Int) ≤ (k : Int) := by omega
      have h1 : (k : Int) < (m.dur.length : Int) := by omega
      rw [Int.toNat_natCast]
      clear e h hi hd HH
      generalize m.seen.getD k [] = x at *
      go_enter Tryz.func74, Tryz.ntmps74
      go_wp2_with fail
      refine HY.out.mono ?_
      rintro e w' ⟨rfl, rfl⟩
      go_wp2_with fail
      refine (whole_any _ x HB.out HL.out).mono ?_
      rintro e w1 ⟨rfl, hf⟩
      go_wp2_with fail
      go_ret2
      exact .inr ⟨rfl, _, rfl, hf⟩
    · have e : m.readErr i = 1 := by simp only [Dsk.DM.readErr, hd', if_pos hi]; rfl
      rw [e]
      have HY := Lib.hid (has_no w d _ m i HH.out hi)
      clear e h hi hd HH
      go_enter Tryz.func74, Tryz.ntmps74
      go_wp2_with fail
      refine HY.out.mono ?_
      rintro e w' ⟨rfl, rfl⟩
      go_wp2_with fail
      go_ret2
      exact .inl ⟨by decide, rfl, Below.refl _ _⟩

end Go.Proofs.YtkajneeihhobhaaGreat

namespace Go.Proofs.YtkajneeihhobhaaGreat
open Go.RowKit

theorem infoW : (Tryz.prog.info? 105).map (fun i => (i.zero, i.size, i.bytes)) = some (some (.agg #[.int .i64 0, .string ⟨#[]⟩]), 2, 24) := by kernel_rfl

/-- Within Write: the sector is seen as it was written, the write lies in block b7; it doesn't wait yet. -/
structure Written (w1 w2 : World) (d gd cd gs cs b7 k : Nat) (vw : Value) (m : Dsk.DM) (l : List Nat) : Prop where
  blk : Held w2 d 80 #[.slice (some ⟨gd, 0, none⟩) m.dur.length cd, .slice (some ⟨gs, 0, none⟩) m.dur.length cs, vw, .int .i64 m.fuel, .bool m.dead]
  dur : w2.ownsRow 0 9 1 (.slice (some ⟨gd, 0, none⟩) m.dur.length cd) m.dur.length (m.dur.map strV)
  seen : w2.ownsRow 0 9 1 (.slice (some ⟨gs, 0, none⟩) m.dur.length cs) m.dur.length ((m.seen.set k l).map strV)
  wait : w2.ownsRow 0 105 2 vw m.wait.length (waitCells m.wait)
  tmp : Held w2 b7 105 #[.int .i64 (k : Int), strV l]
  ne : gd ≠ gs
  good : m.Good
  only : Only (diskFoot d gd gs vw) w1 w2

theorem Written.start {w1 : World} {d gd cd gs cs b7 k : Nat} {vw : Value} {m : Dsk.DM} {l : List Nat} (h : DiskIs w1 d gd cd gs cs vw m) (hb7 : b7 = w1.heap.size) (_hk : k < m.dur.length) :
    Written w1 ((w1.setCell { block := gs, off := k } (Value.string (strB l))).alloc (Obj.cells #[Value.int IntKind.i64 ↑k, Value.string (strB l)] 105)).drew d gd cd gs cs b7 k vw m l := by
  have hne := h.ne_d
  have ho : Only [gs] w1 (w1.setCell { block := gs, off := k } (Value.string (strB l))) := (Only.refl _ w1).setCell (.inl (by simp)) _
  have hk : ∀ o, Only [gs] w1 ((w1.setCell { block := gs, off := k } (Value.string (strB l))).alloc o).drew := fun o => (ho.alloc o).drew
  refine ⟨h.blk.only (hk _) (by simpa using fun e => hne.2.1 e.symm), (hk _).row h.dur (fun g hg hm => ?_), ?_, (hk _).row h.wait (fun g hg hm => ?_), ?_, h.ne, h.good, (hk _).mono (fun x hx => .inl (by simp at hx; simp [hx, diskFoot]))⟩
  · have e1 : gd = g := by simpa [Value.ownBlock] using hg
    have e2 : g = gs := by simpa using hm
    exact h.ne (e1.trans e2)
  · have e : ((m.seen.set k l).map strV) = (m.seen.map strV).set k (strV l) := by rw [List.map_set]
    rw [e]
    exact (h.seen.stored k (strV l)).1.alloc _
  · have e2 : g = gs := by simpa using hm
    exact (hne.2.2 g hg).2.2 e2
  · exact Held.new _ _ _ (by rw [hb7]; simp)

section
variable {w1 w2 w3 : World} {d gd cd gs cs b7 k : Nat} {vw : Value} {m : Dsk.DM} {l : List Nat}
theorem Written.c2 (h : Written w1 w2 d gd cd gs cs b7 k vw m l) : w2.cell? ⟨d, 2, none⟩ = some vw := h.blk.cell 2
theorem Written.c7 (h : Written w1 w2 d gd cd gs cs b7 k vw m l) : w2.cell? ⟨b7, 0, none⟩ = some (.int .i64 (k : Int)) ∧ w2.cell? ⟨b7, 1, none⟩ = some (strV l) := ⟨h.tmp.cell 0, h.tmp.cell 1⟩
theorem Written.ne_vw (h : Written w1 w2 d gd cd gs cs b7 k vw m l) : vw.ownBlock ≠ some d := fun e => h.blk.ne_row h.wait (by decide) d e rfl
theorem Written.keep_blk (h : Written w1 w2 d gd cd gs cs b7 k vw m l) {o : Obj} (hg : (w2.alloc o).drew.grownBy w3 vw.ownBlock) :
    Held w3 d 80 #[.slice (some ⟨gd, 0, none⟩) m.dur.length cd, .slice (some ⟨gs, 0, none⟩) m.dur.length cs, vw, .int .i64 m.fuel, .bool m.dead] :=
  (hg.block d (by have := h.blk.lt; simp; omega) (fun e => h.ne_vw e.symm)).trans (h.blk.alloc o)
theorem Written.keep_c2 (h : Written w1 w2 d gd cd gs cs b7 k vw m l) {o : Obj} (hg : (w2.alloc o).drew.grownBy w3 vw.ownBlock) : w3.cell? ⟨d, 2, none⟩ = some vw := (h.keep_blk hg).cell 2
theorem Written.keep_f2 (h : Written w1 w2 d gd cd gs cs b7 k vw m l) {o : Obj} (hg : (w2.alloc o).drew.grownBy w3 vw.ownBlock) : w3.frozen? ⟨d, 2, none⟩ = false := (h.keep_blk hg).frozen 2
theorem Written.done (h : Written w1 w2 d gd cd gs cs b7 k vw m l) {o : Obj} {g cap : Nat} (hk : k < m.dur.length) (hl : ∀ x ∈ l, x < 256) (h5 : l.length ≤ 512)
    (hown : w3.ownsRow 0 105 2 (.slice (some ⟨g, 0, none⟩) (m.wait.length + 1) cap) (m.wait.length + 1) (waitCells m.wait ++ [.int .i64 (k : Int), strV l]))
    (hg : (w2.alloc o).drew.grownBy w3 vw.ownBlock) (hat : vw.ownBlock = some g ∨ g = (w2.alloc o).drew.heap.size) :
    Turned w1 d (diskFoot d gd gs vw) (w3.setCell ⟨d, 2, none⟩ (.slice (some ⟨g, 0, none⟩) (m.wait.length + 1) cap)) { m with wait := m.wait ++ [(k, l)] } := by
  have hge : vw.ownBlock = some g ∨ w1.heap.size ≤ g := by
    rcases hat with h1 | h1
    · exact .inl h1
    · right
      have := h.only.size
      have e : (w2.alloc o).drew.heap.size = w2.heap.size + 1 := by simp
      omega
  have hb := h.keep_blk hg
  have gd_ne : some gd ≠ vw.ownBlock := fun e => rows_ne h.dur h.wait (by decide) gd rfl e.symm
  have gs_ne : some gs ≠ vw.ownBlock := fun e => rows_ne h.seen h.wait (by decide) gs rfl e.symm
  have hdur : w3.ownsRow 0 9 1 (.slice (some ⟨gd, 0, none⟩) m.dur.length cd) m.dur.length (m.dur.map strV) := (ownsRow_drew (h.dur.alloc o)).kept hg (.inr gd_ne)
  have hseen : w3.ownsRow 0 9 1 (.slice (some ⟨gs, 0, none⟩) m.dur.length cs) m.dur.length ((m.seen.set k l).map strV) := (ownsRow_drew (h.seen.alloc o)).kept hg (.inr gs_ne)
  have dd : gd ≠ d := h.blk.ne_row h.dur (by decide) gd rfl
  have ds : gs ≠ d := h.blk.ne_row h.seen (by decide) gs rfl
  have dg : g ≠ d := hb.ne_row hown (by decide) g rfl
  have fin : DiskIs (w3.setCell ⟨d, 2, none⟩ (.slice (some ⟨g, 0, none⟩) (m.wait.length + 1) cap)) d gd cd gs cs (.slice (some ⟨g, 0, none⟩) (m.wait.length + 1) cap) { m with wait := m.wait ++ [(k, l)] } := by
    refine ⟨hb.set_ 2 _, ?_, ?_, ?_, h.ne, ⟨h.good.least, h.good.most, h.good.bytes, h.good.short, ?_, ?_, ?_, h.good.f0, h.good.f1⟩⟩
    · exact ownsRow_far hdur (fun x hx e => dd (by have : gd = x := by simpa [Value.ownBlock] using hx
                                                   exact this.trans e)) _
    · have e : Dsk.DM.seen { m with wait := m.wait ++ [(k, l)] } = m.seen.set k l := Dsk.apply_snoc _ _ _
      rw [e]
      exact ownsRow_far hseen (fun x hx e => ds (by have : gs = x := by simpa [Value.ownBlock] using hx
                                                    exact this.trans e)) _
    · show World.ownsRow _ 0 105 2 _ (m.wait ++ [(k, l)]).length (waitCells (m.wait ++ [(k, l)]))
      rw [waitCells_snoc, List.length_append]
      exact ownsRow_far hown (fun x hx e => dg (by have : g = x := by simpa [Value.ownBlock] using hx
                                                   exact this.trans e)) _
    · intro p hp
      rcases List.mem_append.1 hp with hp | hp
      · exact h.good.at_ p hp
      · have : p = (k, l) := by simpa using hp
        subst this
        exact hk
    · intro p hp
      rcases List.mem_append.1 hp with hp | hp
      · exact h.good.wbytes p hp
      · have : p = (k, l) := by simpa using hp
        subst this
        exact hl
    · intro p hp
      rcases List.mem_append.1 hp with hp | hp
      · exact h.good.wshort p hp
      · have : p = (k, l) := by simpa using hp
        subst this
        exact h5
  have hon : Only (diskFoot d gd gs vw) w1 w3 := ((h.only.alloc o).drew).grown hg (fun x hx => .inl (by simp [diskFoot, hx]))
  refine ⟨_, ⟨gd, cd, gs, cs, _, fin, rfl⟩, hon.setCell (.inl (by simp [diskFoot])) _, fun x hx => ?_⟩
  rw [mem_foot] at hx ⊢
  rcases hx with rfl | rfl | rfl | hx
  · exact .inl (.inl rfl)
  · exact .inl (.inr (.inl rfl))
  · exact .inl (.inr (.inr (.inl rfl)))
  · have e1 : g = x := by simpa [Value.ownBlock] using hx
    subst e1
    rcases hge with e | e
    · exact .inl (.inr (.inr (.inr e)))
    · exact .inr e
end

theorem Turned.trans {w w1 w2 : World} {d : Nat} {F F1 : List Nat} {m : Dsk.DM} (h : Only F w w1) (hF : ∀ x ∈ F1, x ∈ F ∨ w.heap.size ≤ x) (k : Turned w1 d F1 w2 m) : Turned w d F w2 m := by
  obtain ⟨F2, h1, h2, h3⟩ := k
  refine ⟨F2, h1, h.trans h2 hF, fun x hx => ?_⟩
  rcases h3 x hx with h4 | h4
  · exact hF x h4
  · right
    have := h.size
    omega

set_option maxHeartbeats 400000 in
theorem write_ok (w : World) (d : Nat) (F : List Nat) (m : Dsk.DM) (k : Nat) (A : Option Addr) (n c : Nat) (l : List Nat) (h : DiskAt w d F m) (hl : Bts w A n l) (hn : n ≤ 512) (hA : 0 < n → ∀ x, A = some x → x.block ∉ F)
    (hw : m.wait.length ≤ 5800000000000) (hd : m.dead = false) (hk : k < m.dur.length) (hf : m.fuel ≠ 0) :
    Calls Tryz.prog 59 #[.pointer (some ⟨d, 0, none⟩), .int .i64 (k : Int), .slice A n c] w fun e w' => e = .returned (.int .i64 0) ∧ Turned w d F w' { m.burn with wait := m.wait ++ [(k, l)] } := by
  have HH := Lib.hid h
  have c4 : w.cell? ⟨d, 4, none⟩ = some (.bool m.dead) := by obtain ⟨gd, cd, gs, cs, vw, h, rfl⟩ := h; exact h.cells.2.2.2.2
  have HL := Lib.hid hl
  have HY := Lib.hid (has_yes w d _ m (k : Int) HH.out ⟨by omega, by omega⟩)
  have hbd : m.burn.dead = false := by
    unfold Dsk.DM.burn
    rw [if_neg hf]
    split <;> exact hd
  have HB := Lib.hid (burn_any w d _ m HH.out)
  rw [hbd] at HB
  have h5 : ¬ (512 : Int) < (n : Int) := by omega
  have h0 : (0 : Int) ≤ (k : Int) := by omega
  have EW := Lib.hid m.burn_wait
  have ED := Lib.hid m.burn_dur
  clear hl h hf hbd
  go_enter Tryz.func59, Tryz.ntmps59
  go_wp2_with fail
  refine HY.out.mono ?_
  rintro e w' ⟨rfl, rfl⟩
  go_wp2_with fail
  refine HB.out.mono ?_
  rintro e w1 ⟨rfl, F1, ⟨gd, cd, gs, cs, vw, hI, rfl⟩, hO, hF⟩
  have hcv := (hO.bts HL.out hA).toStr byteT Tryz.underlying9 c
  have H1 := Lib.hid hI
  have c0 := hI.cells.1
  have c1 := hI.cells.2.1
  have c2 := hI.cells.2.2.1
  have hx := strs_at hI.seen (by rw [Dsk.DM.seen_length]) (i := k) (by rw [ED.out]; exact hk)
  have fx := hI.seen.frozenAt k
  have dlt := hI.blk.lt
  have glt := (hI.seen.lt _ rfl).2
  have dlt' : (k : Int) < (m.burn.dur.length : Int) := by rw [ED.out]; omega
  clear hI
  go_wp2_with fail
  go_region
  obtain ⟨b7, hb7⟩ : ∃ b, b = w1.heap.size := ⟨_, rfl⟩
  rw [← hb7]
  have K1 := Lib.hid (Written.start H1.out hb7 (by rw [ED.out]; exact hk) (l := l))
  have HB7 := Lib.hid hb7
  clear c0 c1 c2 hx fx dlt glt hcv hb7
  generalize ((w1.setCell { block := gs, off := k } (Value.string (strB l))).alloc (Obj.cells #[Value.int IntKind.i64 ↑k, Value.string (strB l)] 105)).drew = w2 at *
  have c2 := K1.out.c2
  have d2 := K1.out.c7.1
  have d3 := K1.out.c7.2
  have d4 := K1.out.blk.lt
  obtain ⟨i0, hi0, hz0, hz1, hz2⟩ := info_parts infoW
  go_wp2_with fail
  have KO := Lib.hid (ownsRow_drew (K1.out.wait.alloc (.cells #[.int .i64 (k : Int), strV l] 105)))
  have KN : Hid (∀ j u, [Value.int .i64 (k : Int), strV l][j]? = some u → (w2.alloc (.cells #[.int .i64 (k : Int), strV l] 105)).drew.cell? ((⟨w2.heap.size, 0, none⟩ : Addr).add j) = some u) := World.news_of_block (heap_alloc_new w2 (.cells #[.int .i64 (k : Int), strV l] 105))
  have k1 : ∀ u ∈ ([.int .i64 (k : Int), strV l] : List Value), u.oneCell' = true := by intro u hu; simp only [List.mem_cons, List.not_mem_nil, or_false] at hu; rcases hu with rfl | rfl <;> rfl
  have K2 := Lib.hid k1
  have k3 : m.burn.wait.length + 1 ≤ maxLen := by rw [EW.out]; simp only [maxLen]; omega
  have k4 : (m.burn.wait.length + 1) * 24 ≤ 140737488355328 := by rw [EW.out]; omega
  have K3 := Lib.hid k3
  have K4 := Lib.hid k4
  clear k1 k3 k4
  go_region_law (refine step_append_lies _ rfl (.tmp 46) (.tmp 48) 78 rfl 0 105 i0 (.agg #[.int .i64 0, .string ⟨#[]⟩]) 2 24 Tryz.underlying78 hi0 hz0 hz1 hz2 rfl ?q2 vw m.burn.wait.length (waitCells m.burn.wait) ?q3 KO.out ⟨w2.heap.size, 0, none⟩ 1 1 [.int .i64 (k : Int), strV l] ?q5 rfl KN.out K2.out ?q9 K3.out K4.out (Nat.zero_le _) _ rfl ?_; (case q2 => decide); (case q3 => simp [Act.eval]); (case q5 => simp [Act.eval]); (case q9 => decide); intro g cap w3 hown hgrow hat hlt; have g2 := K1.out.keep_c2 hgrow; have g3 := K1.out.keep_f2 hgrow)
  all_goals
    have T := Lib.hid (K1.out.done (by rw [ED.out]; exact hk) HL.out.2.1 (by have := HL.out.1; omega) hown hgrow hat)
    clear g2 g3 hown hgrow hat hlt
    go_wp2_with fail
    go_ret
    have T1 := T.out
    rw [EW.out] at T1 ⊢
    exact ⟨rfl, Turned.trans hO hF T1⟩
set_option maxHeartbeats 400000 in
theorem write_any (w : World) (d : Nat) (F : List Nat) (m : Dsk.DM) (i : Int) (A : Option Addr) (n c : Nat) (l : List Nat) (h : DiskAt w d F m) (hl : Bts w A n l) (hn : n ≤ 9223372036854775807) (hA : 0 < n → ∀ x, A = some x → x.block ∉ F)
    (hw : m.wait.length ≤ 5800000000000) :
    Calls Tryz.prog 59 #[.pointer (some ⟨d, 0, none⟩), .int .i64 i, .slice A n c] w fun e w' => e = .returned (.int .i64 (m.writeErr i n)) ∧ Turned w d F w' (m.write i l) := by
  have HH := Lib.hid h
  have hln := Lib.hid hl.1
  obtain ⟨gd, cd, gs, cs, vw, h, rfl⟩ := h
  have c4 := h.cells.2.2.2.2
  by_cases hd : m.dead = true
  · have e : m.writeErr i n = 10 := by simp [Dsk.DM.writeErr, hd]
    have e2 : m.write i l = m := by simp [Dsk.DM.write, hd]
    rw [e, e2]
    clear e e2 h hl hln
    go_enter Tryz.func59, Tryz.ntmps59
    go_wp2_with fail
    go_ret
    exact ⟨rfl, Turned.refl HH.out⟩
  · have hd' : m.dead = false := by simpa using hd
    by_cases hi : 0 ≤ i ∧ i < m.dur.length
    · by_cases h512 : 512 < n
      · have e : m.writeErr i n = 1 := by simp only [Dsk.DM.writeErr, hd', if_pos (Or.inr h512)]; rfl
        have e2 : m.write i l = m := by simp only [Dsk.DM.write, hd', hln.out, if_pos (Or.inr h512)]; rfl
        rw [e, e2]
        have HY := Lib.hid (has_yes w d _ m i HH.out hi)
        have h5 : (512 : Int) < (n : Int) := by omega
        clear e e2 h hl hln hi h512 hd
        go_enter Tryz.func59, Tryz.ntmps59
        go_wp2_with fail
        refine HY.out.mono ?_
        rintro e w' ⟨rfl, rfl⟩
        go_wp2_with fail
        go_ret
        exact ⟨rfl, Turned.refl HH.out⟩
      · by_cases hf : m.fuel = 0
        · have hnn : ¬ (¬ (0 ≤ i ∧ i < m.dur.length) ∨ 512 < n) := fun c => c.elim (fun c => c hi) h512
          have hnl : ¬ (¬ (0 ≤ i ∧ i < m.dur.length) ∨ 512 < l.length) := by rw [hln.out]; exact hnn
          have e : m.writeErr i n = 10 := by simp only [Dsk.DM.writeErr, hd', if_neg hnn, hf]; rfl
          have e2 : m.write i l = { m with dead := true } := by simp only [Dsk.DM.write, hd', if_neg hnl, hf]; rfl
          have eb : m.burn = { m with dead := true } := by simp [Dsk.DM.burn, hf]
          rw [e, e2]
          have HY := Lib.hid (has_yes w d _ m i HH.out hi)
          have HB := Lib.hid (burn_any w d _ m HH.out)
          rw [eb] at HB
          have h5 : ¬ (512 : Int) < (n : Int) := by omega
          clear e e2 eb h hl hln hi h512 hd hf hnn hnl
          go_enter Tryz.func59, Tryz.ntmps59
          go_wp2_with fail
          refine HY.out.mono ?_
          rintro e w' ⟨rfl, rfl⟩
          go_wp2_with fail
          refine HB.out.mono ?_
          rintro e w1 ⟨rfl, ht⟩
          go_wp2_with fail
          go_ret
          exact ⟨rfl, ht⟩
        · have hnn : ¬ (¬ (0 ≤ i ∧ i < m.dur.length) ∨ 512 < n) := fun c => c.elim (fun c => c hi) h512
          have hnl : ¬ (¬ (0 ≤ i ∧ i < m.dur.length) ∨ 512 < l.length) := by rw [hln.out]; exact hnn
          have e : m.writeErr i n = 0 := by simp only [Dsk.DM.writeErr, hd', if_neg hnn, if_neg hf]; rfl
          have e2 : m.write i l = { m.burn with wait := m.wait ++ [(i.toNat, l)] } := by simp only [Dsk.DM.write, hd', if_neg hnl, if_neg hf]; rfl
          rw [e, e2]
          obtain ⟨k, rfl⟩ := Int.eq_ofNat_of_zero_le hi.1
          exact write_ok w d _ m k A n c l HH.out hl (by omega) hA hw hd' (by omega) hf
    · have e : m.writeErr i n = 1 := by simp only [Dsk.DM.writeErr, hd', if_pos (Or.inl hi)]; rfl
      have e2 : m.write i l = m := by simp only [Dsk.DM.write, hd', if_pos (Or.inl hi)]; rfl
      rw [e, e2]
      have HY := Lib.hid (has_no w d _ m i HH.out hi)
      clear e e2 h hl hln hi hd
      go_enter Tryz.func59, Tryz.ntmps59
      go_wp2_with fail
      refine HY.out.mono ?_
      rintro e w' ⟨rfl, rfl⟩
      go_wp2_with fail
      go_ret
      exact ⟨rfl, Turned.refl HH.out⟩

end Go.Proofs.YtkajneeihhobhaaGreat

namespace Go.Proofs.YtkajneeihhobhaaGreat
open Go.RowKit

/-- Within a loop over what waits: the durable sectors hold D, the seen ones S; all else is as it was. -/
structure Sweep (w1 wr : World) (d gd cd gs cs : Nat) (vw : Value) (m : Dsk.DM) (D S : List (List Nat)) : Prop where
  blk : Held wr d 80 #[.slice (some ⟨gd, 0, none⟩) m.dur.length cd, .slice (some ⟨gs, 0, none⟩) m.dur.length cs, vw, .int .i64 m.fuel, .bool m.dead]
  dur : wr.ownsRow 0 9 1 (.slice (some ⟨gd, 0, none⟩) m.dur.length cd) m.dur.length (D.map strV)
  seen : wr.ownsRow 0 9 1 (.slice (some ⟨gs, 0, none⟩) m.dur.length cs) m.dur.length (S.map strV)
  wait : wr.ownsRow 0 105 2 vw m.wait.length (waitCells m.wait)
  ne : gd ≠ gs
  good : m.Good
  only : Only (diskFoot d gd gs vw) w1 wr
  dlen : D.length = m.dur.length
  slen : S.length = m.dur.length

section
variable {w1 wr : World} {d gd cd gs cs b i : Nat} {vw : Value} {m : Dsk.DM} {D S : List (List Nat)} {x : List Nat}
theorem Sweep.start (h : DiskIs w1 d gd cd gs cs vw m) : Sweep w1 w1 d gd cd gs cs vw m m.dur m.seen :=
  ⟨h.blk, h.dur, h.seen, h.wait, h.ne, h.good, Only.refl _ _, rfl, m.seen_length⟩
theorem Sweep.alloc (h : Sweep w1 wr d gd cd gs cs vw m D S) (o : Obj) : Sweep w1 (wr.alloc o) d gd cd gs cs vw m D S :=
  ⟨h.blk.alloc o, h.dur.alloc o, h.seen.alloc o, h.wait.alloc o, h.ne, h.good, h.only.alloc o, h.dlen, h.slen⟩
theorem Sweep.drew (h : Sweep w1 wr d gd cd gs cs vw m D S) : Sweep w1 wr.drew d gd cd gs cs vw m D S :=
  ⟨h.blk, h.dur, h.seen, h.wait, h.ne, h.good, h.only.drew, h.dlen, h.slen⟩
theorem Sweep.nes (h : Sweep w1 wr d gd cd gs cs vw m D S) : gd ≠ d ∧ gs ≠ d ∧ vw.ownBlock ≠ some gd ∧ vw.ownBlock ≠ some gs ∧ vw.ownBlock ≠ some d :=
  ⟨h.blk.ne_row h.dur (by decide) gd rfl, h.blk.ne_row h.seen (by decide) gs rfl, fun e => rows_ne h.wait h.dur (by decide) gd e rfl, fun e => rows_ne h.wait h.seen (by decide) gs e rfl, fun e => h.blk.ne_row h.wait (by decide) d e rfl⟩
theorem own1 {g x n c : Nat} (hx : Value.ownBlock (.slice (some ⟨g, 0, none⟩) n c) = some x) : g = x := by simpa [Value.ownBlock] using hx
theorem Sweep.setDur (h : Sweep w1 wr d gd cd gs cs vw m D S) (i : Nat) (x : List Nat) : Sweep w1 (wr.setCell ⟨gd, i, none⟩ (strV x)) d gd cd gs cs vw m (D.set i x) S where
  blk := h.blk.far (fun e => h.nes.1 e.symm) _
  dur := by rw [List.map_set]; exact (h.dur.stored i (strV x)).1
  seen := ownsRow_far h.seen (fun y hy e => h.ne ((own1 hy).trans e).symm) _
  wait := ownsRow_far h.wait (fun y hy e => h.nes.2.2.1 (hy.trans (by rw [e]))) _
  ne := h.ne
  good := h.good
  only := h.only.setCell (.inl (by simp [diskFoot])) _
  dlen := by simp [h.dlen]
  slen := h.slen
theorem Sweep.setSeen (h : Sweep w1 wr d gd cd gs cs vw m D S) (i : Nat) (x : List Nat) : Sweep w1 (wr.setCell ⟨gs, i, none⟩ (strV x)) d gd cd gs cs vw m D (S.set i x) where
  blk := h.blk.far (fun e => h.nes.2.1 e.symm) _
  dur := ownsRow_far h.dur (fun y hy e => h.ne ((own1 hy).trans e)) _
  seen := by rw [List.map_set]; exact (h.seen.stored i (strV x)).1
  wait := ownsRow_far h.wait (fun y hy e => h.nes.2.2.2.1 (hy.trans (by rw [e]))) _
  ne := h.ne
  good := h.good
  only := h.only.setCell (.inl (by simp [diskFoot])) _
  dlen := h.dlen
  slen := by simp [h.slen]
/-- The k-th of what waits, in memory. -/
theorem Sweep.at_ (h : Sweep w1 wr d gd cd gs cs vw m D S) {k : Nat} (hk : k < m.wait.length) : ∃ gw c p, vw = .slice (some ⟨gw, 0, none⟩) m.wait.length c ∧ m.wait[k]? = some p ∧ wr.cell? ⟨gw, k * 2, none⟩ = some (.int .i64 (p.1 : Int)) ∧ wr.cell? ⟨gw, k * 2 + 1, none⟩ = some (.string (strB p.2)) ∧ p.1 < m.dur.length ∧ gw < wr.heap.size ∧
    m.wait.take (k + 1) = m.wait.take k ++ [p] := by
  obtain ⟨gw, c, rfl, _, hlt⟩ := h.wait.form (by omega)
  have hp : m.wait[k]? = some m.wait[k] := List.getElem?_eq_getElem hk
  have hc := waitCells_at m.wait k _ hp
  exact ⟨gw, c, _, rfl, hp, (h.wait.cellAt (k * 2) (by omega)).trans hc.1, (h.wait.cellAt (k * 2 + 1) (by omega)).trans hc.2, h.good.at_ _ (List.getElem_mem hk), hlt, by rw [List.take_succ_eq_append_getElem hk]⟩
theorem Sweep.dcell (h : Sweep w1 wr d gd cd gs cs vw m D S) {i : Nat} (hi : i < m.dur.length) : wr.cell? ⟨gd, i, none⟩ = some (.string (strB (D.getD i []))) := strs_at h.dur h.dlen hi
theorem Sweep.scell (h : Sweep w1 wr d gd cd gs cs vw m D S) {i : Nat} (hi : i < m.dur.length) : wr.cell? ⟨gs, i, none⟩ = some (.string (strB (S.getD i []))) := strs_at h.seen h.slen hi
theorem Sweep.done (h : Sweep w1 wr d gd cd gs cs vw m D D) (hB : Dsk.BytesAll D) (hS : Dsk.ShortAll D) :
    DiskIs (wr.setCell ⟨d, 2, none⟩ (.slice none 0 0)) d gd cd gs cs (.slice none 0 0) { m with dur := D, wait := [] } ∧ Turned w1 d (diskFoot d gd gs vw) (wr.setCell ⟨d, 2, none⟩ (.slice none 0 0)) { m with dur := D, wait := [] } := by
  have hd := h.dlen
  have fin : DiskIs (wr.setCell ⟨d, 2, none⟩ (.slice none 0 0)) d gd cd gs cs (.slice none 0 0) { m with dur := D, wait := [] } := by
    refine ⟨?_, ?_, ?_, World.ownsRow_nil _ _ _ _, h.ne, ⟨?_, ?_, hB, hS, fun p hp => (by cases hp), fun p hp => (by cases hp), fun p hp => (by cases hp), h.good.f0, h.good.f1⟩⟩
    · show Held _ d _ #[.slice (some ⟨gd, 0, none⟩) D.length cd, .slice (some ⟨gs, 0, none⟩) D.length cs, .slice none 0 0, .int .i64 m.fuel, .bool m.dead]
      rw [hd]
      exact h.blk.set_ 2 _
    · show World.ownsRow _ 0 _ 1 (.slice (some ⟨gd, 0, none⟩) D.length cd) D.length (D.map strV)
      rw [hd]
      exact ownsRow_far h.dur (fun y hy e => h.nes.1 ((own1 hy).trans e)) _
    · show World.ownsRow _ 0 _ 1 (.slice (some ⟨gs, 0, none⟩) D.length cs) D.length (D.map strV)
      rw [hd]
      exact ownsRow_far h.seen (fun y hy e => h.nes.2.1 ((own1 hy).trans e)) _
    · show 1 ≤ D.length
      rw [hd]; exact h.good.least
    · show D.length ≤ 4096
      rw [hd]; exact h.good.most
  refine ⟨fin, _, ⟨_, _, _, _, _, fin, rfl⟩, h.only.setCell (.inl (by simp [diskFoot])) _, fun x hx => .inl ?_⟩
  rw [mem_foot] at hx ⊢
  rcases hx with hx | hx | hx | hx
  · exact .inl hx
  · exact .inr (.inl hx)
  · exact .inr (.inr (.inl hx))
  · cases hx
theorem Sweep.crashed (h : Sweep w1 wr d gd cd gs cs vw m D D) (hB : Dsk.BytesAll D) (hS : Dsk.ShortAll D) (l : List Bool) (hD : D = Dsk.crashD m.wait l m.dur) :
    Turned w1 d (diskFoot d gd gs vw) (((wr.setCell ⟨d, 2, none⟩ (.slice none 0 0)).setCell ⟨d, 3, none⟩ (.int .i64 (-1))).setCell ⟨d, 4, none⟩ (.bool false)) (m.crash l) := by
  subst hD
  obtain ⟨f1, t1⟩ := h.done hB hS
  have g := f1.good
  have f2 := f1.stored (m' := { m with dur := Dsk.crashD m.wait l m.dur, wait := [], fuel := -1 }) 3 (.int .i64 (-1)) rfl rfl rfl ⟨g.least, g.most, g.bytes, g.short, g.at_, g.wbytes, g.wshort, by show (-1 : Int) ≤ -1; omega, by show (-1 : Int) ≤ _; omega⟩
  have f3 := f2.stored (m' := m.crash l) 4 (.bool false) rfl rfl rfl (h.good.crash l)
  refine ⟨_, ⟨_, _, _, _, _, f3, rfl⟩, ((h.only.setCell (.inl (by simp [diskFoot])) _).setCell (.inl (by simp [diskFoot])) _).setCell (.inl (by simp [diskFoot])) _, fun x hx => .inl ?_⟩
  rw [mem_foot] at hx ⊢
  rcases hx with hx | hx | hx | hx
  · exact .inl hx
  · exact .inr (.inl hx)
  · exact .inr (.inr (.inl hx))
  · cases hx
end

theorem burnt {m : Dsk.DM} (hd : m.dead = false) (hf : m.fuel ≠ 0) : m.burn.dead = false := by
  unfold Dsk.DM.burn
  rw [if_neg hf]
  split <;> exact hd

set_option maxHeartbeats 400000 in
theorem flush_go (w : World) (d : Nat) (F : List Nat) (m mb : Dsk.DM) (h : DiskAt w d F m) (hmb : m.burn = mb) (hw : mb.wait.length ≤ 5800000000000) (hd : m.dead = false) (hf : m.fuel ≠ 0) :
    Calls Tryz.prog 26 #[.pointer (some ⟨d, 0, none⟩)] w fun e w' => e = .returned (.int .i64 0) ∧ Turned w d F w' { mb with dur := mb.seen, wait := [] } := by
  have c4 : w.cell? ⟨d, 4, none⟩ = some (.bool m.dead) := by obtain ⟨gd, cd, gs, cs, vw, h, rfl⟩ := h; exact h.cells.2.2.2.2
  have hbd := burnt hd hf
  have HB := Lib.hid (burn_any w d _ m h)
  rw [hbd, hmb] at HB
  clear h hf hbd hmb
  go_enter Tryz.func26, Tryz.ntmps26
  go_wp2_with fail
  refine HB.out.mono ?_
  rintro e w1 ⟨rfl, F1, ⟨gd, cd, gs, cs, vw, hI, rfl⟩, hO, hF⟩
  have SW := Lib.hid (Sweep.start hI)
  obtain ⟨A, c, rfl⟩ := hI.vw_form
  have c2 := hI.cells.2.2.1
  clear hI
  go_wp2_with fail
  go_loopw [4, 23] (fun _ i wr => ∃ k : Nat, k ≤ mb.wait.length ∧ i = .int .i64 k ∧ Sweep w1 wr d gd cd gs cs (.slice A mb.wait.length c) mb (Dsk.apply (mb.wait.take k) mb.dur) mb.seen) (fun _ i _ => mb.wait.length - (intOf i).toNat)
  case atStart => exact ⟨0, by omega, rfl, SW.out⟩
  case round =>
    obtain ⟨k, hk, rfl, hS⟩ := hrel
    have HS := Lib.hid hS
    by_cases hlt : k < mb.wait.length
    · obtain ⟨gw, c', p, hv, hp, p0, p1, hpl, hgl, htk⟩ := hS.at_ hlt
      have hgw : A = some ⟨gw, 0, none⟩ := by injection hv
      subst hgw
      have HT := Lib.hid htk
      have c0 : wr.cell? ⟨d, 0, none⟩ = some (.slice (some ⟨gd, 0, none⟩) mb.dur.length cd) := hS.blk.cell 0
      have dlt := hS.blk.lt
      have dx := hS.dcell hpl
      have df := hS.dur.frozenAt p.1
      have dl := (hS.dur.lt _ rfl).2
      have hi0 : (0 : Int) ≤ (k : Int) := by omega
      have hi1 : (k : Int) < (mb.wait.length : Int) := by omega
      have hi2 : (0 : Int) ≤ (p.1 : Int) := by omega
      have hi3 : (p.1 : Int) < (mb.dur.length : Int) := by omega
      clear hv hp htk hS hpl
      go_wp2_with fail
      go_region
      have HN := Lib.hid (((HS.out.setDur p.1 p.2).alloc (.cells #[.int .i64 (p.1 : Int), strV p.2] 105)).drew)
      go_wp2_with fail
      go_roundw
      case rel => exact ⟨k + 1, by omega, by go_num, by rw [HT.out, Dsk.apply_snoc]; exact HN.out⟩
      case measure => simp [intOf]; omega
    · obtain rfl : k = mb.wait.length := by omega
      have c0 : wr.cell? ⟨d, 2, none⟩ = some (.slice A mb.wait.length c) := hS.blk.cell 2
      have f0 := hS.blk.frozen 2
      have hD : Sweep w1 wr d gd cd gs cs (.slice A mb.wait.length c) mb mb.seen mb.seen := by
        have e : Dsk.apply (List.take mb.wait.length mb.wait) mb.dur = mb.seen := by rw [List.take_of_length_le (Nat.le_refl _)]; rfl
        rw [e] at hS; exact hS
      have FIN := Lib.hid (hD.done hS.good.seen_bytes hS.good.seen_short).2
      clear hS hD
      go_wp2_with fail
      go_ret
      exact ⟨rfl, Turned.trans hO hF FIN.out⟩

theorem flush_any (w : World) (d : Nat) (F : List Nat) (m : Dsk.DM) (h : DiskAt w d F m) (hw : m.wait.length ≤ 5800000000000) :
    Calls Tryz.prog 26 #[.pointer (some ⟨d, 0, none⟩)] w fun e w' => e = .returned (.int .i64 m.flushErr) ∧ Turned w d F w' m.flush := by
  by_cases hd : m.dead = true
  · have e : m.flushErr = 10 := by simp [Dsk.DM.flushErr, hd]
    have e2 : m.flush = m := by simp [Dsk.DM.flush, hd]
    rw [e, e2]
    have c4 : w.cell? ⟨d, 4, none⟩ = some (.bool m.dead) := by obtain ⟨gd, cd, gs, cs, vw, h, rfl⟩ := h; exact h.cells.2.2.2.2
    have HH := Lib.hid h
    clear e e2 h
    go_enter Tryz.func26, Tryz.ntmps26
    go_wp2_with fail
    go_ret
    exact ⟨rfl, Turned.refl HH.out⟩
  · have hd' : m.dead = false := by simpa using hd
    by_cases hf : m.fuel = 0
    · have e : m.flushErr = 10 := by simp [Dsk.DM.flushErr, hf]
      have e2 : m.flush = { m with dead := true } := by simp [Dsk.DM.flush, hd', hf]
      have eb : m.burn = { m with dead := true } := by simp [Dsk.DM.burn, hf]
      rw [e, e2]
      have c4 : w.cell? ⟨d, 4, none⟩ = some (.bool m.dead) := by obtain ⟨gd, cd, gs, cs, vw, h, rfl⟩ := h; exact h.cells.2.2.2.2
      have HB := Lib.hid (burn_any w d _ m h)
      rw [eb] at HB
      clear e e2 eb h hd hf
      go_enter Tryz.func26, Tryz.ntmps26
      go_wp2_with fail
      refine HB.out.mono ?_
      rintro e w1 ⟨rfl, ht⟩
      go_wp2_with fail
      go_ret
      exact ⟨rfl, ht⟩
    · have e : m.flushErr = 0 := by simp [Dsk.DM.flushErr, hd', hf]
      have e2 : m.flush = { m.burn with dur := m.burn.seen, wait := [] } := by
        have : m.burn.seen = m.seen := by unfold Dsk.DM.seen; rw [m.burn_dur, m.burn_wait]
        simp only [Dsk.DM.flush, hd', if_neg hf, this]
        rfl
      rw [e, e2]
      exact flush_go w d F m m.burn h rfl (by rw [m.burn_wait]; exact hw) hd' hf

/-- A slice of bools that reads as the list l. -/
def Bls (w : World) (A : Option Addr) (n : Nat) (l : List Bool) : Prop :=
  l.length = n ∧ (0 < n → ∃ b off, A = some ⟨b, off, none⟩ ∧ b < w.heap.size ∧ ∀ i, i < n → w.cell? ⟨b, off + i, none⟩ = some (.bool (l.getD i false)))
theorem Only.bls {F : List Nat} {a b : World} {A : Option Addr} {n : Nat} {l : List Bool} (h : Only F a b) (hb : Bls a A n l) (hA : 0 < n → ∀ x, A = some x → x.block ∉ F) : Bls b A n l :=
  ⟨hb.1, fun hn => by
    obtain ⟨g, off, e, hl, hc⟩ := hb.2 hn
    exact ⟨g, off, e, Nat.lt_of_lt_of_le hl h.size, fun i hi => (h.cell (p := ⟨g, off + i, none⟩) hl (hA hn ⟨g, off, none⟩ e)).trans (hc i hi)⟩⟩

set_option maxHeartbeats 800000 in
theorem crash_any (w : World) (d : Nat) (F : List Nat) (m : Dsk.DM) (A : Option Addr) (n c : Nat) (l : List Bool) (h : DiskAt w d F m) (hl : Bls w A n l) (_hn : n ≤ 9223372036854775807) (hA : 0 < n → ∀ x, A = some x → x.block ∉ F) (hw : m.wait.length ≤ 5800000000000) :
    Calls Tryz.prog 31 #[.pointer (some ⟨d, 0, none⟩), .slice A n c] w fun e w' => e = .returned (.tuple #[]) ∧ Turned w d F w' (m.crash l) := by
  obtain ⟨gd, cd, gs, cs, vw, hI, rfl⟩ := h
  have SW := Lib.hid (Sweep.start hI)
  obtain ⟨A1, c1, rfl⟩ := hI.vw_form
  have c2 := hI.cells.2.2.1
  have HL := Lib.hid hl
  clear hI hl
  go_enter Tryz.func31, Tryz.ntmps31
  go_wp2_with fail
  go_loopw [4, 5, 15] (fun _ _ i wr => ∃ k : Nat, k ≤ m.wait.length ∧ i = .int .i64 k ∧ Sweep w wr d gd cd gs cs (.slice A1 m.wait.length c1) m (Dsk.crashD (m.wait.take k) l m.dur) m.seen) (fun _ _ i _ => m.wait.length - (intOf i).toNat)
  case atStart => exact ⟨0, by omega, rfl, SW.out⟩
  case round =>
    obtain ⟨k, hk, rfl, hS⟩ := hrel
    have HS := Lib.hid hS
    by_cases hlt : k < m.wait.length
    · obtain ⟨gw, c', p, hv, hp, p0, p1, hpl, hgl, htk⟩ := hS.at_ hlt
      have hgw : A1 = some ⟨gw, 0, none⟩ := by injection hv
      subst hgw
      have HT := Lib.hid htk
      have c0 : wr.cell? ⟨d, 0, none⟩ = some (.slice (some ⟨gd, 0, none⟩) m.dur.length cd) := hS.blk.cell 0
      have dlt := hS.blk.lt
      have dx := hS.dcell hpl
      have df := hS.dur.frozenAt p.1
      have dl := (hS.dur.lt _ rfl).2
      have hi0 : (0 : Int) ≤ (k : Int) := by omega
      have hi1 : (k : Int) < (m.wait.length : Int) := by omega
      have hi2 : (0 : Int) ≤ (p.1 : Int) := by omega
      have hi3 : (p.1 : Int) < (m.dur.length : Int) := by omega
      have hlen : (m.wait.take k).length = k := by simp; omega
      have HC := Lib.hid (Dsk.crashD_snoc (m.wait.take k) p l m.dur)
      have HLN := Lib.hid hlen
      have LR := HS.out.only.bls HL.out hA
      clear hv hp htk hS hpl hlen
      by_cases hkn : k < n
      · obtain ⟨gb, ob, rfl, gbl, hbc⟩ := LR.2 (by omega)
        have hb := hbc k hkn
        have hkn0 : (k : Int) < (n : Int) := by omega
        clear hbc
        by_cases hkeep : l.getD k false = true
        · rw [hkeep] at hb
          go_wp2_with fail
          go_region
          have HN := Lib.hid (((HS.out.setDur p.1 p.2).alloc (.cells #[.int .i64 (p.1 : Int), strV p.2] 105)).drew)
          go_wp2_with fail
          go_roundw
          case rel => exact ⟨k + 1, by omega, by go_num, by rw [HT.out, HC.out, HLN.out, if_pos hkeep]; exact HN.out⟩
          case measure => simp [intOf]; omega
        · have hkeep' : l.getD k false = false := by simpa using hkeep
          rw [hkeep'] at hb
          have HN := Lib.hid (HS.out.alloc (.cells #[.int .i64 (p.1 : Int), strV p.2] 105))
          go_wp2_with fail
          go_roundw
          case rel => exact ⟨k + 1, by omega, by go_num, by rw [HT.out, HC.out, HLN.out, if_neg hkeep]; exact HN.out⟩
          case measure => simp [intOf]; omega
      · have hno : l.getD k false = false := by rw [List.getD_eq_getElem?_getD, List.getElem?_eq_none (by have := HL.out.1; omega)]; rfl
        have hkn0 : decide ((k : Int) < (n : Int)) = false := by simp; omega
        have HN := Lib.hid (HS.out.alloc (.cells #[.int .i64 (p.1 : Int), strV p.2] 105))
        have hno' := Lib.hid hno
        clear hno
        go_wp2_with fail
        go_roundw
        case rel => exact ⟨k + 1, by omega, by go_num, by rw [HT.out, HC.out, HLN.out, hno'.out, if_neg (by decide)]; exact HN.out⟩
        case measure => simp [intOf]; omega
    · obtain rfl : k = m.wait.length := by omega
      have e : List.take m.wait.length m.wait = m.wait := List.take_of_length_le (Nat.le_refl _)
      rw [e] at hS
      have c0 : wr.cell? ⟨d, 2, none⟩ = some (.slice A1 m.wait.length c1) := hS.blk.cell 2
      have HS2 := Lib.hid hS
      have DB := Lib.hid (hS.good.bytes.crashD m.wait l hS.good.wbytes)
      have DS := Lib.hid (hS.good.short.crashD m.wait l hS.good.wshort)
      have RE := Lib.hid (Dsk.resee_crash m.wait l m.dur)
      clear HS hS e
      go_wp2_with fail
      clear c0
      obtain ⟨D, hD⟩ : ∃ D, D = Dsk.crashD m.wait l m.dur := ⟨_, rfl⟩
      have HD := Lib.hid hD
      rw [← hD] at HS2 DB DS RE
      clear hD
      obtain ⟨wo, rfl⟩ : ∃ wo : World, wo = wr := ⟨_, rfl⟩
      go_loopw [7, 45] (fun _ i wq => ∃ k : Nat, k ≤ m.wait.length ∧ i = .int .i64 k ∧ Sweep w wq d gd cd gs cs (.slice A1 m.wait.length c1) m D (Dsk.resee (m.wait.take k) D m.seen)) (fun _ i _ => m.wait.length - (intOf i).toNat)
      case atStart => exact ⟨0, by omega, rfl, HS2.out⟩
      case round =>
        obtain ⟨k, hk, rfl, hS⟩ := hrel
        have HS := Lib.hid hS
        by_cases hlt : k < m.wait.length
        · obtain ⟨gw, c', p, hv, hp, p0, p1, hpl, hgl, htk⟩ := hS.at_ hlt
          have hgw : A1 = some ⟨gw, 0, none⟩ := by injection hv
          subst hgw
          have HT := Lib.hid htk
          have q0 : wr.cell? ⟨d, 0, none⟩ = some (.slice (some ⟨gd, 0, none⟩) m.dur.length cd) := hS.blk.cell 0
          have q1 : wr.cell? ⟨d, 1, none⟩ = some (.slice (some ⟨gs, 0, none⟩) m.dur.length cs) := hS.blk.cell 1
          have dlt := hS.blk.lt
          have dx := hS.dcell hpl
          have sx := hS.scell hpl
          have sf := hS.seen.frozenAt p.1
          have dl := (hS.dur.lt _ rfl).2
          have sl := (hS.seen.lt _ rfl).2
          have hi0 : (0 : Int) ≤ (k : Int) := by omega
          have hi1 : (k : Int) < (m.wait.length : Int) := by omega
          have hi2 : (0 : Int) ≤ (p.1 : Int) := by omega
          have hi3 : (p.1 : Int) < (m.dur.length : Int) := by omega
          clear hv hp htk hS hpl
          go_wp2_with fail
          go_region
          have HN := Lib.hid (((HS.out.setSeen p.1 (D.getD p.1 [])).alloc (.cells #[.int .i64 (p.1 : Int), strV p.2] 105)).drew)
          go_wp2_with fail
          go_roundw
          case rel => exact ⟨k + 1, by omega, by go_num, by rw [HT.out, Dsk.resee_snoc]; exact HN.out⟩
          case measure => simp [intOf]; omega
        · obtain rfl : k = m.wait.length := by omega
          have e : List.take m.wait.length m.wait = m.wait := List.take_of_length_le (Nat.le_refl _)
          have hS2 := hS
          rw [e] at hS2
          have e2 : Dsk.resee m.wait D m.seen = D := RE.out
          rw [e2] at hS2
          have f2 := hS2.blk.frozen 2
          have f3 := hS2.blk.frozen 3
          have f4 := hS2.blk.frozen 4
          have q2 : wr.cell? ⟨d, 2, none⟩ = some (.slice A1 m.wait.length c1) := hS2.blk.cell 2
          have q3 : wr.cell? ⟨d, 3, none⟩ = some (.int .i64 m.fuel) := hS2.blk.cell 3
          have q4 : wr.cell? ⟨d, 4, none⟩ = some (.bool m.dead) := hS2.blk.cell 4
          have FIN := Lib.hid (hS2.crashed DB.out DS.out l HD.out)
          clear hS hS2 e e2 HS
          go_wp2_with fail
          go_end0
          exact ⟨rfl, FIN.out⟩
end Go.Proofs.YtkajneeihhobhaaGreat

namespace Go.Proofs.YtkajneeihhobhaaGreat
open Go.RowKit

theorem infoS : (Tryz.prog.info? 9).map (fun i => (i.zero, i.size, i.bytes)) = some (some (.string ⟨#[]⟩), 1, 16) := by kernel_rfl

/-- A new disk like m, all its blocks new. -/
def NewDisk (w : World) (m : Dsk.DM) (e : Ending) (w' : World) : Prop := ∃ d F, e = .returned (.pointer (some ⟨d, 0, none⟩)) ∧ DiskAt w' d F m ∧ Below w.heap.size w w' ∧ ∀ x ∈ F, w.heap.size ≤ x

theorem make_strs (n : Nat) (hn : n ≤ 4096) (u : World) : (Instr.makeSlice 71 (.int .i64 (n : Int)) (.int .i64 (n : Int))).run Tryz.prog u =
    .ok (.slice (some ⟨u.heap.size, 0, none⟩) n n) (u.alloc (.cells (madeCells #[.string ⟨#[]⟩] n) 9)) := by
  obtain ⟨i0, hi, hz0, hz1, hz2⟩ := info_parts infoS
  have h := run_make (P := Tryz.prog) u 71 9 i0 (.string ⟨#[]⟩) Tryz.underlying71 hi hz0 .i64 .i64 (n : Int) (n : Int) (by omega) (Int.le_refl _) (by rw [hz2]; omega) (by omega)
  have e : (n : Int).toNat = n := by omega
  rw [e] at h
  simpa [hz1, Value.cells] using h

theorem own_strs (u : World) (n : Nat) (hn : n ≤ 4096) (b : Nat) (hb : b = u.heap.size) : (u.alloc (.cells (madeCells #[.string ⟨#[]⟩] n) 9)).ownsRow 0 9 1 (.slice (some ⟨b, 0, none⟩) n n) n ((List.replicate n ([] : List Nat)).map strV) := by
  subst hb
  have h := World.ownsRow_lit (base := 0) (e := 9) (size := 1) u (madeCells #[.string ⟨#[]⟩] n) n (Nat.zero_le _) (by simp only [maxLen]; omega) (by simp [size_madeCells])
  rw [toList_madeCells_one] at h
  rw [List.map_replicate]
  exact h

/-- How many sectors New makes. -/
def clampN (x : Int) : Nat := if x < 1 then 1 else if 4096 < x then 4096 else x.toNat
theorem clampN_least (x : Int) : 1 ≤ clampN x := by unfold clampN; split; omega; split <;> omega
theorem clampN_most (x : Int) : clampN x ≤ 4096 := by unfold clampN; split; omega; split <;> omega

theorem fresh_at {w1 : World} {n a b d : Nat} {C : Array Value} (h1 : 1 ≤ n) (h2 : n ≤ 4096) (ha : w1.ownsRow 0 9 1 (.slice (some ⟨a, 0, none⟩) n n) n ((List.replicate n ([] : List Nat)).map strV)) (hb : w1.ownsRow 0 9 1 (.slice (some ⟨b, 0, none⟩) n n) n ((List.replicate n ([] : List Nat)).map strV)) (hne : a ≠ b)
    (hC : C = #[.slice (some ⟨a, 0, none⟩) n n, .slice (some ⟨b, 0, none⟩) n n, .slice none 0 0, .int .i64 (-1), .bool false]) (hd : d = w1.heap.size) :
    DiskAt (w1.alloc (.cells C 80)) d (diskFoot d a b (.slice none 0 0)) (Dsk.fresh n) := by
  subst hC
  refine ⟨a, n, b, n, .slice none 0 0, ⟨?_, ?_, ?_, World.ownsRow_nil _ _ _ _, hne, Dsk.fresh_good h1 h2⟩, rfl⟩
  · have e : (Dsk.fresh n).dur.length = n := by simp [Dsk.fresh]
    rw [e]
    exact Held.new _ _ _ hd
  · have e : (Dsk.fresh n).dur.length = n := by simp [Dsk.fresh]
    rw [e]
    exact ha.alloc _
  · have e : (Dsk.fresh n).dur.length = n := by simp [Dsk.fresh]
    rw [e]
    exact hb.alloc _

theorem new_at (w : World) (x : Int) (n : Nat) (h1 : 1 ≤ n) (h2 : n ≤ 4096) (hx : (x < 1 ∧ n = 1) ∨ (4096 < x ∧ n = 4096) ∨ x = (n : Int)) :
    Calls Tryz.prog 11 #[.int .i64 x] w (NewDisk w (Dsk.fresh n)) := by
  have hmk := make_strs n h2
  have HF1 : Hid (∀ C : Array Value, C = #[.slice (some ⟨w.heap.size, 0, none⟩) n n, .slice (some ⟨w.heap.size + 1, 0, none⟩) n n, .slice none 0 0, .int .i64 (-1), .bool false] → NewDisk w (Dsk.fresh n) (.returned (.pointer (some ⟨w.heap.size + 1 + 1, 0, none⟩)))
      (((w.alloc (.cells (madeCells #[.string ⟨#[]⟩] n) 9)).alloc (.cells (madeCells #[.string ⟨#[]⟩] n) 9)).alloc (.cells C 80)).drew) := fun C hC =>
    ⟨_, _, rfl, (fresh_at h1 h2 ((own_strs w n h2 _ rfl).alloc _) (own_strs _ n h2 _ (by simp)) (by omega) hC (by simp)).drew, ((((Below.refl _ _).alloc (Nat.le_refl _) _).alloc (by simp) _).alloc (by simp; omega) _).drew, fun x hx => by
      rw [mem_foot] at hx
      rcases hx with rfl | rfl | rfl | hx
      · omega
      · omega
      · omega
      · cases hx⟩
  have HF2 : Hid (∀ C : Array Value, C = #[.slice (some ⟨w.heap.size + 1, 0, none⟩) n n, .slice (some ⟨w.heap.size, 0, none⟩) n n, .slice none 0 0, .int .i64 (-1), .bool false] → NewDisk w (Dsk.fresh n) (.returned (.pointer (some ⟨w.heap.size + 1 + 1, 0, none⟩)))
      (((w.alloc (.cells (madeCells #[.string ⟨#[]⟩] n) 9)).alloc (.cells (madeCells #[.string ⟨#[]⟩] n) 9)).alloc (.cells C 80)).drew) := fun C hC =>
    ⟨_, _, rfl, (fresh_at h1 h2 (own_strs _ n h2 _ (by simp)) ((own_strs w n h2 _ rfl).alloc _) (by omega) hC (by simp)).drew, ((((Below.refl _ _).alloc (Nat.le_refl _) _).alloc (by simp) _).alloc (by simp; omega) _).drew, fun x hx => by
      rw [mem_foot] at hx
      rcases hx with rfl | rfl | rfl | hx
      · omega
      · omega
      · omega
      · cases hx⟩
  rcases hx with ⟨hx, hn⟩ | ⟨hx, hn⟩ | rfl
  · have hx' : ¬ 1 ≤ x := by omega
    have HN : Hid (Value.int .i64 1 = Value.int .i64 (n : Int)) := by rw [hn]; rfl
    clear h1 h2 hn
    go_enter Tryz.func11, Tryz.ntmps11
    go_wp2
    rw [HN.out]
    go_region
    all_goals
      go_wp2
      go_ret
      first | exact HF1.out _ rfl | exact HF2.out _ rfl
  · have hx2 : 1 ≤ x := by omega
    have HN : Hid (Value.int .i64 4096 = Value.int .i64 (n : Int)) := by rw [hn]; rfl
    clear h1 h2 hn
    go_enter Tryz.func11, Tryz.ntmps11
    go_wp2
    rw [HN.out]
    go_region
    all_goals
      go_wp2
      go_ret
      first | exact HF1.out _ rfl | exact HF2.out _ rfl
  · have hx1 : (1 : Int) ≤ (n : Int) := by omega
    have hx2 : (n : Int) ≤ 4096 := by omega
    clear h1 h2
    go_enter Tryz.func11, Tryz.ntmps11
    go_wp2
    go_region
    all_goals
      go_wp2
      go_ret
      first | exact HF1.out _ rfl | exact HF2.out _ rfl

theorem new_any (w : World) (x : Int) : Calls Tryz.prog 11 #[.int .i64 x] w (NewDisk w (Dsk.fresh (clampN x))) := by
  refine new_at w x (clampN x) (clampN_least x) (clampN_most x) ?_
  unfold clampN
  by_cases h : x < 1
  · rw [if_pos h]; exact .inl ⟨h, rfl⟩
  · rw [if_neg h]
    by_cases h4 : 4096 < x
    · rw [if_pos h4]; exact .inr (.inl ⟨h4, rfl⟩)
    · rw [if_neg h4]; right; right; omega

/-! ### The calls on a nil disk -/
theorem size_nil (w : World) : Calls Tryz.prog 24 #[.pointer none] w fun e w' => e = .returned (.int .i64 0) ∧ w = w' := by
  go_enter Tryz.func24, Tryz.ntmps24
  go_wp2
  go_ret
  exact ⟨rfl, rfl⟩
theorem dead_nil (w : World) : Calls Tryz.prog 32 #[.pointer none] w fun e w' => e = .returned (.bool false) ∧ w = w' := by
  go_enter Tryz.func32, Tryz.ntmps32
  go_wp2
  go_ret
  exact ⟨rfl, rfl⟩
theorem fuel_nil (w : World) (x : Int) : Calls Tryz.prog 25 #[.pointer none, .int .i64 x] w fun e w' => e = .returned (.tuple #[]) ∧ w = w' := by
  go_enter Tryz.func25, Tryz.ntmps25
  go_wp2
  refine bodyPost_ret (results_none rfl _ _ _) rfl ?_
  exact ⟨rfl, rfl⟩
theorem crash_nil (w : World) (v : Value) : Calls Tryz.prog 31 #[.pointer none, v] w fun e w' => e = .returned (.tuple #[]) ∧ w = w' := by
  go_enter Tryz.func31, Tryz.ntmps31
  go_wp2
  refine bodyPost_ret (results_none rfl _ _ _) rfl ?_
  exact ⟨rfl, rfl⟩
theorem read_nil (w : World) (x : Int) : Calls Tryz.prog 74 #[.pointer none, .int .i64 x] w fun e w' => e = .returned (.tuple #[.slice none 0 0, .int .i64 2]) ∧ w = w' := by
  go_enter Tryz.func74, Tryz.ntmps74
  go_wp2
  go_ret2
  exact ⟨rfl, rfl⟩
theorem write_nil (w : World) (x : Int) (v : Value) : Calls Tryz.prog 59 #[.pointer none, .int .i64 x, v] w fun e w' => e = .returned (.int .i64 2) ∧ w = w' := by
  go_enter Tryz.func59, Tryz.ntmps59
  go_wp2
  go_ret
  exact ⟨rfl, rfl⟩
theorem flush_nil (w : World) : Calls Tryz.prog 26 #[.pointer none] w fun e w' => e = .returned (.int .i64 2) ∧ w = w' := by
  go_enter Tryz.func26, Tryz.ntmps26
  go_wp2
  go_ret
  exact ⟨rfl, rfl⟩
end Go.Proofs.YtkajneeihhobhaaGreat

namespace Go.Proofs.YtkajneeihhobhaaGreat
open Go.RowKit

/-- A disk of the call's own: all its blocks are new since w0. -/
structure Lives (w0 w : World) (d : Nat) (F : List Nat) (m : Dsk.DM) : Prop where
  disk : DiskAt w d F m
  below : Below w0.heap.size w0 w
  new : ∀ x ∈ F, w0.heap.size ≤ x

section
variable {w0 w w' : World} {d : Nat} {F : List Nat} {m m' : Dsk.DM}
theorem Lives.turned (h : Lives w0 w d F m) (t : Turned w d F w' m') : ∃ F', Lives w0 w' d F' m' ∧ (∀ x ∈ F', x ∈ F ∨ w.heap.size ≤ x) ∧ Only F w w' := by
  obtain ⟨F', h1, h2, h3⟩ := t
  refine ⟨F', ⟨h1, h.below.trans (h2.below h.below.size h.new), fun x hx => ?_⟩, h3, h2⟩
  rcases h3 x hx with hx | hx
  · exact h.new x hx
  · exact Nat.le_trans h.below.size hx
theorem Lives.under (h : Lives w0 w d F m) (b : Below w.heap.size w w') : Lives w0 w' d F m := ⟨h.disk.below b, h.below.trans (b.mono h.below.size), h.new⟩
theorem Lives.alloc (h : Lives w0 w d F m) (o : Obj) : Lives w0 (w.alloc o) d F m := h.under ((Below.refl _ _).alloc (Nat.le_refl _) o)
theorem Lives.drew (h : Lives w0 w d F m) : Lives w0 w.drew d F m := h.under (Below.refl _ _).drew
theorem Lives.far (h : Lives w0 w d F m) : ∀ x, w.heap.size ≤ x → x ∉ F := fun x hx hm => by have := h.disk.lt x hm; omega
theorem Lives.old (h : Lives w0 w d F m) : ∀ x, x < w0.heap.size → x ∉ F := fun x hx hm => by have := h.new x hm; omega
theorem NewDisk.lives {e : Ending} (h : NewDisk w m e w') : ∃ d F, e = .returned (.pointer (some ⟨d, 0, none⟩)) ∧ Lives w w' d F m := by
  obtain ⟨d, F, h1, h2, h3, h4⟩ := h
  exact ⟨d, F, h1, h2, h3, h4⟩
end

theorem conv_new (w : World) (b : Nat) (C : Array Value) (n c : Nat) (hb : b = w.heap.size) : (convert 56 56 (.slice (some ⟨b, 0, none⟩) n c)).run Tryz.prog (w.alloc (.cells C 5)) = .ok (.slice (some ⟨b, 0, none⟩) n c) (w.alloc (.cells C 5 (C.size, C.size + 1))) := by
  subst hb
  exact Lib.run_convert_bytes_const w 56 5 C n c Tryz.underlying56 Tryz.underlying5
/-- One byte that has just been laid. -/
theorem bts_one (w : World) (x : Nat) (h8 : x < 256) (e : TypeId) (m : Nat × Nat) (b : Nat) (hb : b = w.heap.size) : Bts (w.alloc (.cells #[.int .u8 (x : Int)] e m)) (some ⟨b, 0, none⟩) 1 [x] := by
  subst hb
  refine ⟨rfl, fun y hy => by have : y = x := by simpa using hy
                              omega, fun _ => ⟨_, 0, rfl, by simp, fun i hi => ?_⟩⟩
  obtain rfl : i = 0 := by omega
  rw [Nat.zero_add, World.cell?_alloc_mark]
  rfl
theorem bts_nil (w : World) : Bts w none 0 [] := ⟨rfl, by simp, fun h => by omega⟩
/-- One bool that has just been laid. -/
theorem bls_one (w : World) (x : Bool) (e : TypeId) (b : Nat) (hb : b = w.heap.size) : Bls (w.alloc (.cells #[.bool x] e)) (some ⟨b, 0, none⟩) 1 [x] := by
  subst hb
  refine ⟨rfl, fun _ => ⟨_, 0, rfl, by simp, fun i hi => ?_⟩⟩
  obtain rfl : i = 0 := by omega
  rw [Nat.zero_add, World.cell?_alloc_new]
  rfl

/-- What Read and Durable answer where there is such a sector. -/
theorem Tells.ok {w w' : World} {x : Int} {l : List Nat} {e : Ending} (h : Tells w x l e w') (hx : x = 0) : ∃ v, e = .returned (.tuple #[v, .int .i64 0]) ∧ Fresh512 w (sec l) v w' := by
  rcases h with ⟨h0, _⟩ | ⟨_, h⟩
  · exact absurd hx h0
  · exact h

theorem Tells.no {w w' : World} {x : Int} {l : List Nat} {e : Ending} (h : Tells w x l e w') (hx : x ≠ 0) : e = .returned (.tuple #[.slice none 0 0, .int .i64 x]) ∧ Below w.heap.size w w' := by
  rcases h with ⟨_, h⟩ | ⟨h0, _⟩
  · exact h
  · exact absurd h0 hx

namespace Fix
def m0 : Dsk.DM := Dsk.fresh 4
def m1 : Dsk.DM := m0.write 1 [97]
def m2 : Dsk.DM := m1.write 1 [98]
def m3 : Dsk.DM := m2.crash [true]
theorem e0 : Dsk.fresh (clampN 4) = m0 := rfl
theorem e1 : m0.writeErr 1 ((1 : Nat) : Int).toNat = 0 := by decide
theorem e2 : m1.writeErr 1 ((1 : Nat) : Int).toNat = 0 := by decide
theorem p2 : m2.wait.length = 2 := by decide
theorem r2 : m2.readErr 1 = 0 := by decide
theorem s2 : m2.seen.getD (1 : Int).toNat [] = [98] := by decide
theorem r3 : m3.readErr 1 = 0 := by decide
theorem s3 : m3.seen.getD (1 : Int).toNat [] = [97] := by decide
theorem e4 : m3.writeErr 4 0 = 1 := by decide
end Fix

/-- The first byte of a fresh sector. -/
theorem Fresh512.first {w w' : World} {x : Nat} {v : Value} (h : Fresh512 w (sec [x]) v w') : v = .slice (some ⟨w.heap.size, 0, none⟩) 512 512 ∧ w'.cell? ⟨w.heap.size, 0, none⟩ = some (.int .u8 (x : Int)) := by
  obtain ⟨rfl, ho, _⟩ := h
  refine ⟨rfl, ?_⟩
  have hl : (sec [x]).length = 512 := sec_length _
  obtain ⟨g, cap, hv, _, _, hb, _⟩ := ho.form (by omega)
  have hg : w.heap.size = g := by
    injection hv with hv _ _
    injection hv with hv
    injection hv
  subst hg
  have := hb.cell0 (i := 0) (by omega)
  rw [this]
  rfl
theorem Fresh512.lt {w w' : World} {l : List Nat} {v : Value} (h : Fresh512 w l v w') (hl : 0 < l.length) : w.heap.size < w'.heap.size := by
  obtain ⟨rfl, ho, _⟩ := h
  obtain ⟨g, cap, hv, _, hlt, _⟩ := ho.form hl
  have hg : w.heap.size = g := by
    injection hv with hv _ _
    injection hv with hv
    injection hv
  subst hg
  exact hlt

end Go.Proofs.YtkajneeihhobhaaGreat

namespace Go.Proofs.YtkajneeihhobhaaGreat
open Go.ChangeShapes Go.WideShapes Go.ChangeAt Go.RowKit Go.Joins Go.Deep

theorem cellsB : Tryz.prog.cellsOf 4 = 1 := by kernel_rfl
section
variable {H : Type} {enc : TypeId × Value → H} {W : World}
set_option maxRecDepth 100000 in
/-- A slice of bools that came in. -/
theorem open_bls {fuel : Nat} {v : Value} {x : DataW H × List MemPlace} (h : DataW.trod enc Tryz.prog W 0 (fun _ => true) true fuel 65 [v] = some x) :
    ∃ A n c l, v = .slice A n c ∧ Bls W A n l ∧ n ≤ 9223372036854775807 ∧ (0 < n → ∀ a, A = some a → a.block < W.heap.size) ∧ ((x.1 = .nil ∧ n = 0) ∨ ∃ elems spare, x.1 = .slice elems spare ∧ elems.length = n) := by
  rcases open_bools Tryz.underlying65 Tryz.underlying4 cellsB h with ⟨hcs, hx⟩ | ⟨a, len, cap, B, hcs, _, hl, hm, hx, hc⟩
  · injection hcs with hcs
    exact ⟨none, 0, 0, [], hcs, ⟨rfl, fun h => by omega⟩, by omega, fun h => by omega, .inl ⟨by rw [hx], rfl⟩⟩
  · injection hcs with hcs
    have hm' : len ≤ 9223372036854775807 := by unfold maxLen at hm; omega
    refine ⟨some a, len, cap, (List.range len).map B, hcs, ⟨by simp, fun hp => ?_⟩, hm', fun hp b hb => ?_, .inr ⟨_, _, by rw [hx]; rfl, by simp⟩⟩
    · obtain ⟨b, off, spot⟩ := a
      have h0 := hc 0 (by omega)
      have hspot : spot = none := by simpa [Addr.add] using World.cell?_spot h0
      subst hspot
      refine ⟨b, off, rfl, by simpa [Addr.add] using block_lt h0, fun i hi => ?_⟩
      have h1 := hc i (by omega)
      have e : (⟨b, off, none⟩ : Addr).add i = ⟨b, off + i, none⟩ := by cases i <;> simp [Addr.add]
      rw [← e, h1]
      have e2 : ((List.range len).map B).getD i false = B i := by
        rw [List.getD_eq_getElem?_getD, List.getElem?_map, List.getElem?_range hi]
        rfl
      rw [e2]
    · injection hb with hb
      subst hb
      have h0 := hc 0 (by omega)
      simpa [Addr.add] using block_lt h0

/-- An Op, read. -/
structure OpD where
  kind : Nat
  i : Int
  data : ByteArray
  A : Option Addr
  n : Nat
  c : Nat
  keep : List Bool

instance : Inhabited OpD := ⟨⟨0, 0, ⟨#[]⟩, none, 0, 0, []⟩⟩

structure OpGood (W : World) (o : OpD) : Prop where
  k : o.kind < 256
  i0 : -9223372036854775808 ≤ o.i
  i1 : o.i ≤ 9223372036854775807
  s : o.data.size ≤ 9223372036854775807
  keep : Bls W o.A o.n o.keep
  n : o.n ≤ 9223372036854775807
  lt : 0 < o.n → ∀ a, o.A = some a → a.block < W.heap.size

def OpD.cells (o : OpD) : Array Value := #[.int .u8 (o.kind : Int), .int .i64 o.i, .string o.data, .slice o.A o.n o.c]

theorem i64_wf {z : Int} (h : (Lit.int .i64 z).wf = true) : -9223372036854775808 ≤ z ∧ z ≤ 9223372036854775807 := by
  simpa [Lit.wf, IntKind.min, IntKind.max, IntKind.signed, IntKind.bits] using h

set_option maxRecDepth 100000 in
theorem open_fields {n : Nat} {v0 v1 v2 v3 : Value} {y0 y1 y2 y3 : DataW H × List MemPlace} (h0 : DataW.trod enc Tryz.prog W 0 (fun _ => true) true n 5 [v0] = some y0) (h1 : DataW.trod enc Tryz.prog W 0 (fun _ => true) true n 3 [v1] = some y1)
    (h2 : DataW.trod enc Tryz.prog W 0 (fun _ => true) true n 9 [v2] = some y2) (h3 : DataW.trod enc Tryz.prog W 0 (fun _ => true) true n 65 [v3] = some y3) :
    ∃ o : OpD, OpGood W o ∧ v0 = .int .u8 (o.kind : Int) ∧ v1 = .int .i64 o.i ∧ v2 = .string o.data ∧ v3 = .slice o.A o.n o.c := by
  obtain ⟨z0, e0, _, w0⟩ := DataW.trod_int Tryz.underlying5 h0
  obtain ⟨z1, e1, _, w1⟩ := DataW.trod_int Tryz.underlying3 h1
  obtain ⟨s, e2, _, w2⟩ := DataW.trod_string Tryz.underlying9 h2
  obtain ⟨A, m, c, l, e3, hb, hm, hlt, _⟩ := open_bls h3
  injection e0 with e0
  injection e1 with e1
  injection e2 with e2
  have u := u8_nat w0
  have i := i64_wf w1
  refine ⟨⟨z0.toNat, z1, s, A, m, c, l⟩, ⟨u.2, i.1, i.2, by unfold maxLen at w2; omega, hb, hm, hlt⟩, ?_, e1, e2, e3⟩
  rw [e0]
  show Value.int .u8 z0 = .int .u8 ((z0.toNat : Nat) : Int)
  rw [u.1]

/-- A slice of Ops, read. -/
def Ops (w : World) (A : Option Addr) (n : Nat) (l : List OpD) : Prop :=
  l.length = n ∧ (∀ o ∈ l, OpGood w o) ∧ (0 < n → ∃ b off, A = some ⟨b, off, none⟩ ∧ b < w.heap.size ∧ ∀ i o, l[i]? = some o → ∀ j, j < 4 → w.cell? ⟨b, off + i * 4 + j, none⟩ = o.cells[j]?)

theorem OpGood.kept {w' : World} {o : OpD} (h : OpGood W o) (hb : Below W.heap.size W w') : OpGood w' o :=
  ⟨h.k, h.i0, h.i1, h.s, (Only.of_below (F := []) hb).bls h.keep (fun _ _ _ hx => by cases hx), h.n, fun h0 a ha => Nat.lt_of_lt_of_le (h.lt h0 a ha) hb.size⟩
theorem Ops.kept {w' : World} {A : Option Addr} {n : Nat} {l : List OpD} (h : Ops W A n l) (hb : Below W.heap.size W w') : Ops w' A n l :=
  ⟨h.1, fun o ho => (h.2.1 o ho).kept hb, fun hn => by
    obtain ⟨b, off, e, hl, hc⟩ := h.2.2 hn
    exact ⟨b, off, e, Nat.lt_of_lt_of_le hl hb.size, fun i o hi j hj => (hb.cell (p := ⟨b, off + i * 4 + j, none⟩) hl).trans (hc i o hi j hj)⟩⟩
/-- The k-th of the Ops, in memory. -/
theorem Ops.at_ {A : Option Addr} {n k : Nat} {l : List OpD} (h : Ops W A n l) (hk : k < n) : ∃ b off o, A = some ⟨b, off, none⟩ ∧ b < W.heap.size ∧ l[k]? = some o ∧ OpGood W o ∧ l.take (k + 1) = l.take k ++ [o] ∧
    W.cell? ⟨b, off + k * 4, none⟩ = some (.int .u8 (o.kind : Int)) ∧ W.cell? ⟨b, off + k * 4 + 1, none⟩ = some (.int .i64 o.i) ∧ W.cell? ⟨b, off + k * 4 + 2, none⟩ = some (.string o.data) ∧ W.cell? ⟨b, off + k * 4 + 3, none⟩ = some (.slice o.A o.n o.c) := by
  obtain ⟨h1, h2, h3⟩ := h
  obtain ⟨b, off, e, hb, hc⟩ := h3 (by omega)
  have hkl : k < l.length := by omega
  have hx := hc k _ (List.getElem?_eq_getElem hkl)
  exact ⟨b, off, l[k], e, hb, List.getElem?_eq_getElem hkl, h2 _ (List.getElem_mem hkl), List.take_succ_eq_append_getElem hkl, hx 0 (by omega), hx 1 (by omega), hx 2 (by omega), hx 3 (by omega)⟩
end

section
variable {H : Type} {enc : TypeId × Value → H} {W : World}
set_option maxRecDepth 100000 in
/-- An argument of type uint8. -/
theorem open_u8 {r : Reach} {b0 : Nat} {v : Value} {d : DataW H} {p : List MemPlace} (hv : Value.okWide Tryz.prog W r b0 5 v) (h : DataW.Trod enc Tryz.prog W 0 (fun _ => true) true 5 v d p) : ∃ x : Nat, v = .int .u8 (x : Int) ∧ x < 256 := by
  obtain ⟨z, rfl⟩ := okWide_int Tryz.underlying5 hv
  obtain ⟨fuel, hf⟩ := h
  obtain ⟨z0, e0, _, w0⟩ := DataW.trod_int Tryz.underlying5 hf
  simp [Value.cells] at e0
  subst e0
  have u := u8_nat w0
  exact ⟨z.toNat, by rw [u.1], u.2⟩
set_option maxRecDepth 100000 in
/-- An argument of type int. -/
theorem open_i64 {r : Reach} {b0 : Nat} {v : Value} {d : DataW H} {p : List MemPlace} (hv : Value.okWide Tryz.prog W r b0 3 v) (h : DataW.Trod enc Tryz.prog W 0 (fun _ => true) true 3 v d p) : ∃ x : Int, v = .int .i64 x ∧ -9223372036854775808 ≤ x ∧ x ≤ 9223372036854775807 := by
  obtain ⟨z, rfl⟩ := okWide_int Tryz.underlying3 hv
  obtain ⟨fuel, hf⟩ := h
  obtain ⟨z0, e0, _, w0⟩ := DataW.trod_int Tryz.underlying3 hf
  simp [Value.cells] at e0
  subst e0
  exact ⟨z, rfl, i64_wf w0⟩
set_option maxRecDepth 100000 in
/-- An argument of type []bool. -/
theorem open_keep {r : Reach} {b0 : Nat} {v : Value} {d : DataW H} {p : List MemPlace} (hv : Value.okWide Tryz.prog W r b0 65 v) (h : DataW.Trod enc Tryz.prog W 0 (fun _ => true) true 65 v d p) :
    ∃ A n c l, v = .slice A n c ∧ Bls W A n l ∧ n ≤ 9223372036854775807 ∧ (0 < n → ∀ a, A = some a → a.block < W.heap.size) ∧ ((d = .nil ∧ n = 0) ∨ ∃ elems spare, d = .slice elems spare ∧ elems.length = n) := by
  obtain ⟨A, n, c, rfl⟩ := okWide_slice Tryz.underlying65 hv
  obtain ⟨fuel, hf⟩ := h
  exact open_bls (x := (d, p)) hf
theorem Bls.kept {w' : World} {A : Option Addr} {n : Nat} {l : List Bool} (h : Bls W A n l) (hb : Below W.heap.size W w') : Bls w' A n l :=
  (Only.of_below (F := []) hb).bls h (fun _ _ _ hx => by cases hx)
end

/-- A string turned into bytes: one new block, nothing else has turned. -/
theorem below_bytesWorld {B : Nat} (w : World) (e : TypeId) (s : ByteArray) (hB : B ≤ w.heap.size) : Below B w (Lib.bytesWorld w e s) :=
  ⟨rfl, rfl, rfl, by rw [Lib.bytesWorld_size]; omega, fun k hk => Lib.bytesWorld_at_old w e s k (by omega)⟩
theorem bts_bytesWorld (w : World) (e : TypeId) (s : ByteArray) {b : Nat} (hb : b = w.heap.size) : Bts (Lib.bytesWorld w e s) (some ⟨b, 0, none⟩) s.size (nums s) := by
  subst hb
  refine ⟨nums_length s, nums_lt s, fun _ => ⟨_, 0, rfl, by rw [Lib.bytesWorld_size]; omega, fun i hi => ?_⟩⟩
  rw [Nat.zero_add, Lib.bytesWorld_cell w e s i hi]
  have hi' : i < s.data.toList.length := by rw [Array.length_toList]; exact hi
  have e1 : (nums s).getD i 0 = (s.data.toList.getD i 0).toNat := by
    unfold nums
    rw [List.getD_eq_getElem?_getD, List.getD_eq_getElem?_getD, List.getElem?_map, List.getElem?_eq_getElem hi']
    rfl
  rw [e1]
end Go.Proofs.YtkajneeihhobhaaGreat
