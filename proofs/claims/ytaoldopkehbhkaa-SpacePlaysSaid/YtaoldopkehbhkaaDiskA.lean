/-
  A disk in memory (DiskAt: its blocks, what they hold), and the contracts of its small calls: Size, Pending, Dead, Fuel, has, burn, whole.
-/
import Derived.Test.YtaoldopkehbhkaaRows
import Derived.Test.YtaoldopkehbhkaaDiskMath
import Derived.Test.YtaoldopkehbhkaaMem
import Derived.WalkKit
import Derived.WalkSpells
import Derived.WalkLawsBesides
import Derived.Lib.Hide
import Derived.Outline
import Derived.Lib.LazyBuf
import Derived.Laws.MakeOwn
namespace Go.Proofs.Ytaoldopkehbhkaa
open Go.RowKit

/-- The cells of the writes that wait. -/
def waitCells (w : List (Nat × List Nat)) : List Value := w.flatMap fun p => [.int .i64 (p.1 : Int), strV p.2]

/-- A disk in block d: its sectors in blocks gd (durable) and gs (seen), what waits in the row vw. -/
structure DiskIs (w : World) (d gd cd gs cs : Nat) (vw : Value) (m : Dsk.DM) : Prop where
  blk : Held w d 85 #[.slice (some ⟨gd, 0, none⟩) m.dur.length cd, .slice (some ⟨gs, 0, none⟩) m.dur.length cs, vw, .int .i64 m.fuel, .bool m.dead]
  dur : w.ownsRow 0 9 1 (.slice (some ⟨gd, 0, none⟩) m.dur.length cd) m.dur.length (m.dur.map strV)
  seen : w.ownsRow 0 9 1 (.slice (some ⟨gs, 0, none⟩) m.dur.length cs) m.dur.length (m.seen.map strV)
  wait : w.ownsRow 0 119 2 vw m.wait.length (waitCells m.wait)
  ne : gd ≠ gs
  good : m.Good

/-- The blocks of a disk. -/
def diskFoot (d gd gs : Nat) (vw : Value) : List Nat := d :: gd :: gs :: vw.ownBlock.toList

theorem mem_foot {d gd gs x : Nat} {vw : Value} : x ∈ diskFoot d gd gs vw ↔ x = d ∨ x = gd ∨ x = gs ∨ vw.ownBlock = some x := by
  simp only [diskFoot, List.mem_cons, Option.mem_toList]

/-- In w a disk like m lies at block d, on the blocks F. -/
def DiskAt (w : World) (d : Nat) (F : List Nat) (m : Dsk.DM) : Prop := ∃ gd cd gs cs vw, DiskIs w d gd cd gs cs vw m ∧ F = diskFoot d gd gs vw

theorem waitCells_length (w : List (Nat × List Nat)) : (waitCells w).length = w.length * 2 := by
  induction w with
  | nil => rfl
  | cons p r ih => simp only [waitCells, List.flatMap_cons, List.length_append, List.length_cons, List.length_nil] at ih ⊢; omega
theorem waitCells_snoc (w : List (Nat × List Nat)) (p : Nat × List Nat) : waitCells (w ++ [p]) = waitCells w ++ [.int .i64 (p.1 : Int), strV p.2] := by simp [waitCells]
theorem waitCells_at (w : List (Nat × List Nat)) : ∀ k p, w[k]? = some p → (waitCells w)[k * 2]? = some (.int .i64 (p.1 : Int)) ∧ (waitCells w)[k * 2 + 1]? = some (strV p.2) := by
  induction w with
  | nil => intro k p h; simp at h
  | cons q r ih =>
    intro k p h
    cases k with
    | zero => simp at h; subst h; exact ⟨rfl, rfl⟩
    | succ k =>
      have h' := ih k p (by simpa using h)
      have e1 : (k + 1) * 2 = k * 2 + 1 + 1 := by omega
      have e : ∀ j, (waitCells (q :: r))[j + 1 + 1]? = (waitCells r)[j]? := fun j => rfl
      rw [e1]
      exact ⟨(e _).trans h'.1, (e (k * 2 + 1)).trans h'.2⟩

theorem strV_oneCell (l : List Nat) : (strV l).oneCell' = true := rfl

section
variable {w w' : World} {d gd cd gs cs : Nat} {vw : Value} {m : Dsk.DM} {F G : List Nat}

theorem DiskIs.ne_d (h : DiskIs w d gd cd gs cs vw m) : gd ≠ d ∧ gs ≠ d ∧ (∀ b, vw.ownBlock = some b → b ≠ d ∧ b ≠ gd ∧ b ≠ gs) :=
  ⟨h.blk.ne_row h.dur (by decide) gd rfl, h.blk.ne_row h.seen (by decide) gs rfl, fun b hb =>
    ⟨h.blk.ne_row h.wait (by decide) b hb, fun e => rows_ne h.wait h.dur (by decide) b hb (by rw [e]; rfl), fun e => rows_ne h.wait h.seen (by decide) b hb (by rw [e]; rfl)⟩⟩
theorem DiskIs.only (h : DiskIs w d gd cd gs cs vw m) (k : Only G w w') (hG : ∀ x ∈ diskFoot d gd gs vw, x ∉ G) : DiskIs w' d gd cd gs cs vw m where
  blk := h.blk.only k (hG _ (by simp [diskFoot]))
  dur := k.row h.dur fun g hg => by
    have : gd = g := by simpa [Value.ownBlock] using hg
    subst this
    exact hG _ (by simp [diskFoot])
  seen := k.row h.seen fun g hg => by
    have : gs = g := by simpa [Value.ownBlock] using hg
    subst this
    exact hG _ (by simp [diskFoot])
  wait := k.row h.wait fun g hg => hG _ (by simp [diskFoot, hg])
  ne := h.ne
  good := h.good
theorem DiskIs.lt (h : DiskIs w d gd cd gs cs vw m) : ∀ x ∈ diskFoot d gd gs vw, x < w.heap.size := by
  intro x hx
  simp only [diskFoot, List.mem_cons, Option.mem_toList] at hx
  rcases hx with rfl | rfl | rfl | hx
  · exact h.blk.lt
  · exact (h.dur.lt _ rfl).2
  · exact (h.seen.lt _ rfl).2
  · exact (h.wait.lt _ hx).2
theorem DiskAt.only (h : DiskAt w d F m) (k : Only G w w') (hG : ∀ x ∈ F, x ∉ G) : DiskAt w' d F m := by
  obtain ⟨gd, cd, gs, cs, vw, h, rfl⟩ := h
  exact ⟨gd, cd, gs, cs, vw, h.only k hG, rfl⟩
theorem DiskAt.lt (h : DiskAt w d F m) : ∀ x ∈ F, x < w.heap.size := by
  obtain ⟨gd, cd, gs, cs, vw, h, rfl⟩ := h
  exact h.lt
theorem DiskAt.good (h : DiskAt w d F m) : m.Good := by
  obtain ⟨gd, cd, gs, cs, vw, h, rfl⟩ := h
  exact h.good
theorem DiskAt.mem (h : DiskAt w d F m) : d ∈ F := by
  obtain ⟨gd, cd, gs, cs, vw, h, rfl⟩ := h
  simp [diskFoot]
theorem DiskAt.drew (h : DiskAt w d F m) : DiskAt w.drew d F m := h.only ((Only.refl [] w).drew) (fun _ _ hx => by cases hx)
theorem DiskAt.drewN (h : DiskAt w d F m) (n : Nat) : DiskAt (w.drewN n) d F m := h.only ((Only.refl [] w).drewN n) (fun _ _ hx => by cases hx)
theorem DiskAt.alloc (h : DiskAt w d F m) (o : Obj) : DiskAt (w.alloc o) d F m := h.only ((Only.refl [] w).alloc o) (fun _ _ hx => by cases hx)
theorem DiskAt.below (h : DiskAt w d F m) (k : Below w.heap.size w w') : DiskAt w' d F m := h.only (Only.of_below (F := []) k) (fun _ _ hx => by cases hx)

/-- What a call on a disk leaves: a disk like m', on its own blocks or new ones, and all else as it was. -/
def Turned (w : World) (d : Nat) (F : List Nat) (w' : World) (m' : Dsk.DM) : Prop := ∃ F', DiskAt w' d F' m' ∧ Only F w w' ∧ ∀ x ∈ F', x ∈ F ∨ w.heap.size ≤ x
theorem Turned.refl (h : DiskAt w d F m) : Turned w d F w m := ⟨F, h, Only.refl _ _, fun _ hx => .inl hx⟩

/-- The cells of the disk's own block. -/
theorem DiskIs.cells (h : DiskIs w d gd cd gs cs vw m) : w.cell? ⟨d, 0, none⟩ = some (.slice (some ⟨gd, 0, none⟩) m.dur.length cd) ∧ w.cell? ⟨d, 1, none⟩ = some (.slice (some ⟨gs, 0, none⟩) m.dur.length cs) ∧
    w.cell? ⟨d, 2, none⟩ = some vw ∧ w.cell? ⟨d, 3, none⟩ = some (.int .i64 m.fuel) ∧ w.cell? ⟨d, 4, none⟩ = some (.bool m.dead) :=
  ⟨h.blk.cell 0, h.blk.cell 1, h.blk.cell 2, h.blk.cell 3, h.blk.cell 4⟩
/-- The row of what waits, as a slice. -/
theorem DiskIs.vw_form (h : DiskIs w d gd cd gs cs vw m) : ∃ A c, vw = .slice A m.wait.length c := by
  rcases h.wait.2 with ⟨h1, h2⟩ | ⟨g, cap, cur, h1, _⟩
  · exact ⟨none, 0, by rw [h1, h2]⟩
  · exact ⟨_, cap, h1⟩
end

theorem size_any (w : World) (d : Nat) (F : List Nat) (m : Dsk.DM) (h : DiskAt w d F m) :
    Calls Try.prog 36 #[.pointer (some ⟨d, 0, none⟩)] w fun e w' => e = .returned (.int .i64 (m.dur.length : Int)) ∧ w = w' := by
  obtain ⟨gd, cd, gs, cs, vw, h, rfl⟩ := h
  have c0 := h.cells.1
  clear h
  go_enter Try.func36, Try.ntmps36
  go_wp2
  go_ret
  exact ⟨rfl, rfl⟩
theorem dead_any (w : World) (d : Nat) (F : List Nat) (m : Dsk.DM) (h : DiskAt w d F m) :
    Calls Try.prog 52 #[.pointer (some ⟨d, 0, none⟩)] w fun e w' => e = .returned (.bool m.dead) ∧ w = w' := by
  obtain ⟨gd, cd, gs, cs, vw, h, rfl⟩ := h
  have c0 := h.cells.2.2.2.2
  clear h
  go_enter Try.func52, Try.ntmps52
  go_wp2
  go_ret
  exact ⟨rfl, rfl⟩
theorem has_any (w : World) (d : Nat) (F : List Nat) (m : Dsk.DM) (i : Int) (h : DiskAt w d F m) :
    Calls Try.prog 53 #[.pointer (some ⟨d, 0, none⟩), .int .i64 i] w fun e w' => e = .returned (.bool (decide (0 ≤ i ∧ i < m.dur.length))) ∧ w = w' := by
  obtain ⟨gd, cd, gs, cs, vw, h, rfl⟩ := h
  have c0 := h.cells.1
  clear h
  by_cases h0 : 0 ≤ i
  · go_enter Try.func53, Try.ntmps53
    go_wp2
    go_ret
    refine ⟨?_, rfl⟩
    simp [h0]
  · go_enter Try.func53, Try.ntmps53
    have h0' : decide (0 ≤ i) = false := by simpa using h0
    go_wp2
    go_ret
    refine ⟨?_, rfl⟩
    simp

/-- A store into the disk's own block, at a field that is no slice. -/
theorem DiskIs.stored {w : World} {d gd cd gs cs : Nat} {vw : Value} {m m' : Dsk.DM} (h : DiskIs w d gd cd gs cs vw m) (i : Nat) (u : Value)
    (hb : (#[.slice (some ⟨gd, 0, none⟩) m.dur.length cd, .slice (some ⟨gs, 0, none⟩) m.dur.length cs, vw, .int .i64 m.fuel, .bool m.dead] : Array Value).setIfInBounds i u =
      #[.slice (some ⟨gd, 0, none⟩) m'.dur.length cd, .slice (some ⟨gs, 0, none⟩) m'.dur.length cs, vw, .int .i64 m'.fuel, .bool m'.dead])
    (hd : m'.dur = m.dur) (hw : m'.wait = m.wait) (hg : m'.Good) : DiskIs (w.setCell ⟨d, i, none⟩ u) d gd cd gs cs vw m' where
  blk := by rw [← hb]; exact h.blk.set_ i u
  dur := by rw [hd]; exact ownsRow_far h.dur (fun g hg e => by have := h.ne_d.1; simp [Value.ownBlock] at hg e; omega) u
  seen := by
    have e : m'.seen = m.seen := by simp [Dsk.DM.seen, hd, hw]
    rw [hd, e]
    exact ownsRow_far h.seen (fun g hg e => by have := h.ne_d.2.1; simp [Value.ownBlock] at hg e; omega) u
  wait := by rw [hw]; exact ownsRow_far h.wait (fun g hg e => (h.ne_d.2.2 g hg).1 e) u
  ne := h.ne
  good := hg
theorem DiskIs.stored_only {w : World} {d gd gs i : Nat} {vw : Value} (u : Value) : Only (diskFoot d gd gs vw) w (w.setCell ⟨d, i, none⟩ u) := (Only.refl _ w).setCell (.inl (by simp [diskFoot])) u

theorem burn_any (w : World) (d : Nat) (F : List Nat) (m : Dsk.DM) (h : DiskAt w d F m) :
    Calls Try.prog 55 #[.pointer (some ⟨d, 0, none⟩)] w fun e w' => e = .returned (.bool (!m.burn.dead)) ∧ Turned w d F w' m.burn := by
  obtain ⟨gd, cd, gs, cs, vw, h, rfl⟩ := h
  have H := Lib.hid h
  have c3 := h.cells.2.2.2.1
  have c4 := h.cells.2.2.2.2
  have f3 := h.blk.frozen 3
  have f4 := h.blk.frozen 4
  have g0 := h.good.f0
  have g1 := h.good.f1
  clear h
  by_cases h1 : m.fuel = -1
  · have hm : m.burn = m := by unfold Dsk.DM.burn; rw [if_pos h1]
    rw [hm]
    clear hm
    have h1' : (m.fuel == -1) = true := by simpa using h1
    clear h1
    go_enter Try.func55, Try.ntmps55
    go_wp2
    go_ret
    exact ⟨rfl, Turned.refl ⟨_, _, _, _, _, H.out, rfl⟩⟩
  · have h1' : (m.fuel == -1) = false := by simpa using h1
    by_cases h2 : m.fuel = 0
    · have hm : m.burn = { m with dead := true } := by unfold Dsk.DM.burn; rw [if_neg h1, if_pos h2]
      rw [hm]
      have h2' : (m.fuel == 0) = true := by simpa using h2
      have D := Lib.hid (H.out.stored (m' := { m with dead := true }) 4 (.bool true) rfl rfl rfl (hm ▸ H.out.good.burn))
      clear h1 h2 hm
      go_enter Try.func55, Try.ntmps55
      go_wp2
      go_ret
      exact ⟨rfl, _, ⟨_, _, _, _, _, D.out, rfl⟩, DiskIs.stored_only _, fun _ hx => .inl hx⟩
    · have hm : m.burn = { m with fuel := m.fuel - 1 } := by unfold Dsk.DM.burn; rw [if_neg h1, if_neg h2]
      rw [hm]
      have h2' : (m.fuel == 0) = false := by simpa using h2
      have D := Lib.hid (H.out.stored (m' := { m with fuel := m.fuel - 1 }) 3 (.int .i64 (m.fuel - 1)) rfl rfl rfl (hm ▸ H.out.good.burn))
      clear h1 h2 hm
      go_enter Try.func55, Try.ntmps55
      go_wp2
      go_ret
      exact ⟨rfl, _, ⟨_, _, _, _, _, D.out, rfl⟩, DiskIs.stored_only _, fun _ hx => .inl hx⟩

theorem cells5 : Try.prog.cellsOf 5 = 1 := by kernel_rfl
theorem info5 : (Try.prog.info? 5).map (fun i => (i.zero, i.size, i.bytes)) = some (some (.int .u8 0), 1, 1) := by kernel_rfl
theorem byteT : ByteT Try.prog 48 5 := ⟨Try.underlying48, Try.underlying5, cells5, info5⟩

/-- A fresh slice of bytes, behind a call: 512 bytes in the first new block. -/
def Fresh512 (w : World) (l : List Nat) (v : Value) (w' : World) : Prop := v = .slice (some ⟨w.heap.size, 0, none⟩) 512 512 ∧ OwnB w' w.heap.size 5 v l ∧ Below w.heap.size w w'

set_option maxRecDepth 100000 in
theorem whole_any (w : World) (l : List Nat) (hl : ∀ x ∈ l, x < 256) (hs : l.length ≤ 512) :
    Calls Try.prog 54 #[strV l] w fun e w' => e = .returned (.slice (some ⟨w.heap.size, 0, none⟩) 512 512) ∧ Fresh512 w (sec l) (.slice (some ⟨w.heap.size, 0, none⟩) 512 512) w' := by
  have hl' := Lib.hid hl
  clear hl
  unfold strV
  have hmk : ∀ u, (Instr.makeSlice 48 (.int .i64 512) (.int .i64 512)).run Try.prog u = .ok (.slice (some ⟨u.heap.size, 0, none⟩) 512 512) (u.alloc (.cells (madeCells #[.int .u8 0] 512) 5)) := fun u => run_make_bts byteT 512 (by omega) .i64 .i64 u
  have HZ := Lib.hid (own_zeros (e := 5) w 512 (by simp [maxLen]) w.heap.size rfl w.heap.size (Nat.le_refl _))
  go_enter Try.func54, Try.ntmps54
  go_wp2_with (refine wpList_copy_str byteT (o := ⟨some 7, _, _, _, _, _⟩) rfl (.tmp 5) (.tmp 6) 9 rfl rfl rfl HZ.out List.length_replicate hs hl'.out ?_; intro w1 ho hg)
  go_ret
  refine ⟨rfl, rfl, ?_, ?_⟩
  · rw [sec_short hs]
    have e : (List.replicate 512 0).drop l.length = List.replicate (512 - l.length) 0 := by rw [List.drop_replicate]
    rw [e] at ho
    exact ho
  · exact ((Below.refl _ _).alloc (Nat.le_refl _) _).grown hg (by simp) (fun k hk => by injection hk with hk; omega)

/-- What Read and Durable answer: nothing and an error, or 512 bytes of the call's own. -/
def Tells (w : World) (x : Int) (l : List Nat) (e : Ending) (w' : World) : Prop :=
  (x ≠ 0 ∧ e = .returned (.tuple #[.slice none 0 0, .int .i64 x]) ∧ Below w.heap.size w w') ∨
  (x = 0 ∧ ∃ v, e = .returned (.tuple #[v, .int .i64 0]) ∧ Fresh512 w (sec l) v w')

theorem strs_at {w : World} {g n c : Nat} {l : List (List Nat)} (h : w.ownsRow 0 9 1 (.slice (some ⟨g, 0, none⟩) n c) n (l.map strV)) (hl : l.length = n) {i : Nat} (hi : i < n) : w.cell? ⟨g, i, none⟩ = some (strV (l.getD i [])) := by
  rw [h.cellAt i (by omega), List.getElem?_map, List.getElem?_eq_getElem (by omega), List.getD_eq_getElem?_getD, List.getElem?_eq_getElem (by omega)]
  rfl

theorem has_yes (w : World) (d : Nat) (F : List Nat) (m : Dsk.DM) (i : Int) (h : DiskAt w d F m) (hi : 0 ≤ i ∧ i < m.dur.length) :
    Calls Try.prog 53 #[.pointer (some ⟨d, 0, none⟩), .int .i64 i] w fun e w' => e = .returned (.bool true) ∧ w = w' :=
  (has_any w d F m i h).mono fun e w' ⟨h1, h2⟩ => ⟨by rw [h1, decide_eq_true hi], h2⟩
theorem has_no (w : World) (d : Nat) (F : List Nat) (m : Dsk.DM) (i : Int) (h : DiskAt w d F m) (hi : ¬ (0 ≤ i ∧ i < m.dur.length)) :
    Calls Try.prog 53 #[.pointer (some ⟨d, 0, none⟩), .int .i64 i] w fun e w' => e = .returned (.bool false) ∧ w = w' :=
  (has_any w d F m i h).mono fun e w' ⟨h1, h2⟩ => ⟨by rw [h1, decide_eq_false hi], h2⟩

set_option maxHeartbeats 400000 in
theorem read_any (w : World) (d : Nat) (F : List Nat) (m : Dsk.DM) (i : Int) (h : DiskAt w d F m) :
    Calls Try.prog 45 #[.pointer (some ⟨d, 0, none⟩), .int .i64 i] w (Tells w (m.readErr i) (m.seen.getD i.toNat [])) := by
  have HH := Lib.hid h
  obtain ⟨gd, cd, gs, cs, vw, h, rfl⟩ := h
  have c1 := h.cells.2.1
  have c4 := h.cells.2.2.2.2
  by_cases hd : m.dead = true
  · have e : m.readErr i = 10 := by simp [Dsk.DM.readErr, hd]
    rw [e]
    clear e h HH
    go_enter Try.func45, Try.ntmps45
    go_wp2
    go_ret2
    exact .inl ⟨by decide, rfl, Below.refl _ _⟩
  · have hd' : m.dead = false := by simpa using hd
    by_cases hi : 0 ≤ i ∧ i < m.dur.length
    · have e : m.readErr i = 0 := by simp [Dsk.DM.readErr, hd', hi]
      rw [e]
      obtain ⟨k, rfl⟩ := Int.eq_ofNat_of_zero_le hi.1
      have hk : k < m.dur.length := by omega
      have hx := strs_at h.seen (by rw [Dsk.DM.seen_length]) hk
      have HY := Lib.hid (has_yes w d _ m (k : Int) HH.out hi)
      have HL := Lib.hid (h.good.seen_short.getD k)
      have HB := Lib.hid (h.good.seen_bytes.getD k)
      have h0 : (0 : Int) ≤ (k : Int) := by omega
      have h1 : (k : Int) < (m.dur.length : Int) := by omega
      rw [Int.toNat_natCast]
      clear e h hi hd HH
      generalize m.seen.getD k [] = x at *
      go_enter Try.func45, Try.ntmps45
      go_wp2_with fail
      refine HY.out.mono ?_
      rintro e w' ⟨rfl, rfl⟩
      go_wp2_with fail
      refine (whole_any _ x HB.out HL.out).mono ?_
      rintro e w1 ⟨rfl, hf⟩
      go_wp2_with fail
      go_ret2
      exact .inr ⟨rfl, _, rfl, hf⟩
    · have e : m.readErr i = 1 := by simp only [Dsk.DM.readErr, hd', if_pos hi]; rfl
      rw [e]
      have HY := Lib.hid (has_no w d _ m i HH.out hi)
      clear e h hi hd HH
      go_enter Try.func45, Try.ntmps45
      go_wp2_with fail
      refine HY.out.mono ?_
      rintro e w' ⟨rfl, rfl⟩
      go_wp2_with fail
      go_ret2
      exact .inl ⟨by decide, rfl, Below.refl _ _⟩

end Go.Proofs.Ytaoldopkehbhkaa
