/-
  The contracts of a disk's Flush and Crash.
-/
import Derived.Test.YtaoldopkehbhkaaDiskB
import Derived.LoopTactic
namespace Go.Proofs.Ytaoldopkehbhkaa
open Go.RowKit

/-- Within a loop over what waits: the durable sectors hold D, the seen ones S; all else is as it was. -/
structure Sweep (w1 wr : World) (d gd cd gs cs : Nat) (vw : Value) (m : Dsk.DM) (D S : List (List Nat)) : Prop where
  blk : Held wr d 85 #[.slice (some ⟨gd, 0, none⟩) m.dur.length cd, .slice (some ⟨gs, 0, none⟩) m.dur.length cs, vw, .int .i64 m.fuel, .bool m.dead]
  dur : wr.ownsRow 0 9 1 (.slice (some ⟨gd, 0, none⟩) m.dur.length cd) m.dur.length (D.map strV)
  seen : wr.ownsRow 0 9 1 (.slice (some ⟨gs, 0, none⟩) m.dur.length cs) m.dur.length (S.map strV)
  wait : wr.ownsRow 0 119 2 vw m.wait.length (waitCells m.wait)
  ne : gd ≠ gs
  good : m.Good
  only : Only (diskFoot d gd gs vw) w1 wr
  dlen : D.length = m.dur.length
  slen : S.length = m.dur.length

section
variable {w1 wr : World} {d gd cd gs cs b i : Nat} {vw : Value} {m : Dsk.DM} {D S : List (List Nat)} {x : List Nat}
theorem Sweep.start (h : DiskIs w1 d gd cd gs cs vw m) : Sweep w1 w1 d gd cd gs cs vw m m.dur m.seen :=
  ⟨h.blk, h.dur, h.seen, h.wait, h.ne, h.good, Only.refl _ _, rfl, m.seen_length⟩
theorem Sweep.alloc (h : Sweep w1 wr d gd cd gs cs vw m D S) (o : Obj) : Sweep w1 (wr.alloc o) d gd cd gs cs vw m D S :=
  ⟨h.blk.alloc o, h.dur.alloc o, h.seen.alloc o, h.wait.alloc o, h.ne, h.good, h.only.alloc o, h.dlen, h.slen⟩
theorem Sweep.drew (h : Sweep w1 wr d gd cd gs cs vw m D S) : Sweep w1 wr.drew d gd cd gs cs vw m D S :=
  ⟨h.blk, h.dur, h.seen, h.wait, h.ne, h.good, h.only.drew, h.dlen, h.slen⟩
theorem Sweep.nes (h : Sweep w1 wr d gd cd gs cs vw m D S) : gd ≠ d ∧ gs ≠ d ∧ vw.ownBlock ≠ some gd ∧ vw.ownBlock ≠ some gs ∧ vw.ownBlock ≠ some d :=
  ⟨h.blk.ne_row h.dur (by decide) gd rfl, h.blk.ne_row h.seen (by decide) gs rfl, fun e => rows_ne h.wait h.dur (by decide) gd e rfl, fun e => rows_ne h.wait h.seen (by decide) gs e rfl, fun e => h.blk.ne_row h.wait (by decide) d e rfl⟩
theorem own1 {g x n c : Nat} (hx : Value.ownBlock (.slice (some ⟨g, 0, none⟩) n c) = some x) : g = x := by simpa [Value.ownBlock] using hx
theorem Sweep.setDur (h : Sweep w1 wr d gd cd gs cs vw m D S) (i : Nat) (x : List Nat) : Sweep w1 (wr.setCell ⟨gd, i, none⟩ (strV x)) d gd cd gs cs vw m (D.set i x) S where
  blk := h.blk.far (fun e => h.nes.1 e.symm) _
  dur := by rw [List.map_set]; exact (h.dur.stored i (strV x)).1
  seen := ownsRow_far h.seen (fun y hy e => h.ne ((own1 hy).trans e).symm) _
  wait := ownsRow_far h.wait (fun y hy e => h.nes.2.2.1 (hy.trans (by rw [e]))) _
  ne := h.ne
  good := h.good
  only := h.only.setCell (.inl (by simp [diskFoot])) _
  dlen := by simp [h.dlen]
  slen := h.slen
theorem Sweep.setSeen (h : Sweep w1 wr d gd cd gs cs vw m D S) (i : Nat) (x : List Nat) : Sweep w1 (wr.setCell ⟨gs, i, none⟩ (strV x)) d gd cd gs cs vw m D (S.set i x) where
  blk := h.blk.far (fun e => h.nes.2.1 e.symm) _
  dur := ownsRow_far h.dur (fun y hy e => h.ne ((own1 hy).trans e)) _
  seen := by rw [List.map_set]; exact (h.seen.stored i (strV x)).1
  wait := ownsRow_far h.wait (fun y hy e => h.nes.2.2.2.1 (hy.trans (by rw [e]))) _
  ne := h.ne
  good := h.good
  only := h.only.setCell (.inl (by simp [diskFoot])) _
  dlen := h.dlen
  slen := by simp [h.slen]
/-- The k-th of what waits, in memory. -/
theorem Sweep.at_ (h : Sweep w1 wr d gd cd gs cs vw m D S) {k : Nat} (hk : k < m.wait.length) : ∃ gw c p, vw = .slice (some ⟨gw, 0, none⟩) m.wait.length c ∧ m.wait[k]? = some p ∧ wr.cell? ⟨gw, k * 2, none⟩ = some (.int .i64 (p.1 : Int)) ∧ wr.cell? ⟨gw, k * 2 + 1, none⟩ = some (.string (strB p.2)) ∧ p.1 < m.dur.length ∧ gw < wr.heap.size ∧
    m.wait.take (k + 1) = m.wait.take k ++ [p] := by
  obtain ⟨gw, c, rfl, _, hlt⟩ := h.wait.form (by omega)
  have hp : m.wait[k]? = some m.wait[k] := List.getElem?_eq_getElem hk
  have hc := waitCells_at m.wait k _ hp
  exact ⟨gw, c, _, rfl, hp, (h.wait.cellAt (k * 2) (by omega)).trans hc.1, (h.wait.cellAt (k * 2 + 1) (by omega)).trans hc.2, h.good.at_ _ (List.getElem_mem hk), hlt, by rw [List.take_succ_eq_append_getElem hk]⟩
theorem Sweep.dcell (h : Sweep w1 wr d gd cd gs cs vw m D S) {i : Nat} (hi : i < m.dur.length) : wr.cell? ⟨gd, i, none⟩ = some (.string (strB (D.getD i []))) := strs_at h.dur h.dlen hi
theorem Sweep.scell (h : Sweep w1 wr d gd cd gs cs vw m D S) {i : Nat} (hi : i < m.dur.length) : wr.cell? ⟨gs, i, none⟩ = some (.string (strB (S.getD i []))) := strs_at h.seen h.slen hi
theorem Sweep.done (h : Sweep w1 wr d gd cd gs cs vw m D D) (hB : Dsk.BytesAll D) (hS : Dsk.ShortAll D) :
    DiskIs (wr.setCell ⟨d, 2, none⟩ (.slice none 0 0)) d gd cd gs cs (.slice none 0 0) { m with dur := D, wait := [] } ∧ Turned w1 d (diskFoot d gd gs vw) (wr.setCell ⟨d, 2, none⟩ (.slice none 0 0)) { m with dur := D, wait := [] } := by
  have hd := h.dlen
  have fin : DiskIs (wr.setCell ⟨d, 2, none⟩ (.slice none 0 0)) d gd cd gs cs (.slice none 0 0) { m with dur := D, wait := [] } := by
    refine ⟨?_, ?_, ?_, World.ownsRow_nil _ _ _ _, h.ne, ⟨?_, ?_, hB, hS, fun p hp => (by cases hp), fun p hp => (by cases hp), fun p hp => (by cases hp), h.good.f0, h.good.f1⟩⟩
    · show Held _ d _ #[.slice (some ⟨gd, 0, none⟩) D.length cd, .slice (some ⟨gs, 0, none⟩) D.length cs, .slice none 0 0, .int .i64 m.fuel, .bool m.dead]
      rw [hd]
      exact h.blk.set_ 2 _
    · show World.ownsRow _ 0 _ 1 (.slice (some ⟨gd, 0, none⟩) D.length cd) D.length (D.map strV)
      rw [hd]
      exact ownsRow_far h.dur (fun y hy e => h.nes.1 ((own1 hy).trans e)) _
    · show World.ownsRow _ 0 _ 1 (.slice (some ⟨gs, 0, none⟩) D.length cs) D.length (D.map strV)
      rw [hd]
      exact ownsRow_far h.seen (fun y hy e => h.nes.2.1 ((own1 hy).trans e)) _
    · show 1 ≤ D.length
      rw [hd]; exact h.good.least
    · show D.length ≤ 4096
      rw [hd]; exact h.good.most
  refine ⟨fin, _, ⟨_, _, _, _, _, fin, rfl⟩, h.only.setCell (.inl (by simp [diskFoot])) _, fun x hx => .inl ?_⟩
  rw [mem_foot] at hx ⊢
  rcases hx with hx | hx | hx | hx
  · exact .inl hx
  · exact .inr (.inl hx)
  · exact .inr (.inr (.inl hx))
  · cases hx
theorem Sweep.crashed (h : Sweep w1 wr d gd cd gs cs vw m D D) (hB : Dsk.BytesAll D) (hS : Dsk.ShortAll D) (l : List Bool) (hD : D = Dsk.crashD m.wait l m.dur) :
    Turned w1 d (diskFoot d gd gs vw) (((wr.setCell ⟨d, 2, none⟩ (.slice none 0 0)).setCell ⟨d, 3, none⟩ (.int .i64 (-1))).setCell ⟨d, 4, none⟩ (.bool false)) (m.crash l) := by
  subst hD
  obtain ⟨f1, t1⟩ := h.done hB hS
  have g := f1.good
  have f2 := f1.stored (m' := { m with dur := Dsk.crashD m.wait l m.dur, wait := [], fuel := -1 }) 3 (.int .i64 (-1)) rfl rfl rfl ⟨g.least, g.most, g.bytes, g.short, g.at_, g.wbytes, g.wshort, by show (-1 : Int) ≤ -1; omega, by show (-1 : Int) ≤ _; omega⟩
  have f3 := f2.stored (m' := m.crash l) 4 (.bool false) rfl rfl rfl (h.good.crash l)
  refine ⟨_, ⟨_, _, _, _, _, f3, rfl⟩, ((h.only.setCell (.inl (by simp [diskFoot])) _).setCell (.inl (by simp [diskFoot])) _).setCell (.inl (by simp [diskFoot])) _, fun x hx => .inl ?_⟩
  rw [mem_foot] at hx ⊢
  rcases hx with hx | hx | hx | hx
  · exact .inl hx
  · exact .inr (.inl hx)
  · exact .inr (.inr (.inl hx))
  · cases hx
end

theorem burnt {m : Dsk.DM} (hd : m.dead = false) (hf : m.fuel ≠ 0) : m.burn.dead = false := by
  unfold Dsk.DM.burn
  rw [if_neg hf]
  split <;> exact hd

set_option maxHeartbeats 400000 in
theorem flush_go (w : World) (d : Nat) (F : List Nat) (m mb : Dsk.DM) (h : DiskAt w d F m) (hmb : m.burn = mb) (hw : mb.wait.length ≤ 5800000000000) (hd : m.dead = false) (hf : m.fuel ≠ 0) :
    Calls Try.prog 49 #[.pointer (some ⟨d, 0, none⟩)] w fun e w' => e = .returned (.int .i64 0) ∧ Turned w d F w' { mb with dur := mb.seen, wait := [] } := by
  have c4 : w.cell? ⟨d, 4, none⟩ = some (.bool m.dead) := by obtain ⟨gd, cd, gs, cs, vw, h, rfl⟩ := h; exact h.cells.2.2.2.2
  have hbd := burnt hd hf
  have HB := Lib.hid (burn_any w d _ m h)
  rw [hbd, hmb] at HB
  clear h hf hbd hmb
  go_enter Try.func49, Try.ntmps49
  go_wp2_with fail
  refine HB.out.mono ?_
  rintro e w1 ⟨rfl, F1, ⟨gd, cd, gs, cs, vw, hI, rfl⟩, hO, hF⟩
  have SW := Lib.hid (Sweep.start hI)
  obtain ⟨A, c, rfl⟩ := hI.vw_form
  have c2 := hI.cells.2.2.1
  clear hI
  go_wp2_with fail
  go_loopw [4, 23] (fun _ i wr => ∃ k : Nat, k ≤ mb.wait.length ∧ i = .int .i64 k ∧ Sweep w1 wr d gd cd gs cs (.slice A mb.wait.length c) mb (Dsk.apply (mb.wait.take k) mb.dur) mb.seen) (fun _ i _ => mb.wait.length - (intOf i).toNat)
  case atStart => exact ⟨0, by omega, rfl, SW.out⟩
  case round =>
    obtain ⟨k, hk, rfl, hS⟩ := hrel
    have HS := Lib.hid hS
    by_cases hlt : k < mb.wait.length
    · obtain ⟨gw, c', p, hv, hp, p0, p1, hpl, hgl, htk⟩ := hS.at_ hlt
      have hgw : A = some ⟨gw, 0, none⟩ := by injection hv
      subst hgw
      have HT := Lib.hid htk
      have c0 : wr.cell? ⟨d, 0, none⟩ = some (.slice (some ⟨gd, 0, none⟩) mb.dur.length cd) := hS.blk.cell 0
      have dlt := hS.blk.lt
      have dx := hS.dcell hpl
      have df := hS.dur.frozenAt p.1
      have dl := (hS.dur.lt _ rfl).2
      have hi0 : (0 : Int) ≤ (k : Int) := by omega
      have hi1 : (k : Int) < (mb.wait.length : Int) := by omega
      have hi2 : (0 : Int) ≤ (p.1 : Int) := by omega
      have hi3 : (p.1 : Int) < (mb.dur.length : Int) := by omega
      clear hv hp htk hS hpl
      go_wp2_with fail
      go_region
      have HN := Lib.hid (((HS.out.setDur p.1 p.2).alloc (.cells #[.int .i64 (p.1 : Int), strV p.2] 119)).drew)
      go_wp2_with fail
      go_roundw
      case rel => exact ⟨k + 1, by omega, by go_num, by rw [HT.out, Dsk.apply_snoc]; exact HN.out⟩
      case measure => simp [intOf]; omega
    · obtain rfl : k = mb.wait.length := by omega
      have c0 : wr.cell? ⟨d, 2, none⟩ = some (.slice A mb.wait.length c) := hS.blk.cell 2
      have f0 := hS.blk.frozen 2
      have hD : Sweep w1 wr d gd cd gs cs (.slice A mb.wait.length c) mb mb.seen mb.seen := by
        have e : Dsk.apply (List.take mb.wait.length mb.wait) mb.dur = mb.seen := by rw [List.take_of_length_le (Nat.le_refl _)]; rfl
        rw [e] at hS; exact hS
      have FIN := Lib.hid (hD.done hS.good.seen_bytes hS.good.seen_short).2
      clear hS hD
      go_wp2_with fail
      go_ret
      exact ⟨rfl, Turned.trans hO hF FIN.out⟩

theorem flush_any (w : World) (d : Nat) (F : List Nat) (m : Dsk.DM) (h : DiskAt w d F m) (hw : m.wait.length ≤ 5800000000000) :
    Calls Try.prog 49 #[.pointer (some ⟨d, 0, none⟩)] w fun e w' => e = .returned (.int .i64 m.flushErr) ∧ Turned w d F w' m.flush := by
  by_cases hd : m.dead = true
  · have e : m.flushErr = 10 := by simp [Dsk.DM.flushErr, hd]
    have e2 : m.flush = m := by simp [Dsk.DM.flush, hd]
    rw [e, e2]
    have c4 : w.cell? ⟨d, 4, none⟩ = some (.bool m.dead) := by obtain ⟨gd, cd, gs, cs, vw, h, rfl⟩ := h; exact h.cells.2.2.2.2
    have HH := Lib.hid h
    clear e e2 h
    go_enter Try.func49, Try.ntmps49
    go_wp2_with fail
    go_ret
    exact ⟨rfl, Turned.refl HH.out⟩
  · have hd' : m.dead = false := by simpa using hd
    by_cases hf : m.fuel = 0
    · have e : m.flushErr = 10 := by simp [Dsk.DM.flushErr, hf]
      have e2 : m.flush = { m with dead := true } := by simp [Dsk.DM.flush, hd', hf]
      have eb : m.burn = { m with dead := true } := by simp [Dsk.DM.burn, hf]
      rw [e, e2]
      have c4 : w.cell? ⟨d, 4, none⟩ = some (.bool m.dead) := by obtain ⟨gd, cd, gs, cs, vw, h, rfl⟩ := h; exact h.cells.2.2.2.2
      have HB := Lib.hid (burn_any w d _ m h)
      rw [eb] at HB
      clear e e2 eb h hd hf
      go_enter Try.func49, Try.ntmps49
      go_wp2_with fail
      refine HB.out.mono ?_
      rintro e w1 ⟨rfl, ht⟩
      go_wp2_with fail
      go_ret
      exact ⟨rfl, ht⟩
    · have e : m.flushErr = 0 := by simp [Dsk.DM.flushErr, hd', hf]
      have e2 : m.flush = { m.burn with dur := m.burn.seen, wait := [] } := by
        have : m.burn.seen = m.seen := by unfold Dsk.DM.seen; rw [m.burn_dur, m.burn_wait]
        simp only [Dsk.DM.flush, hd', if_neg hf, this]
        rfl
      rw [e, e2]
      exact flush_go w d F m m.burn h rfl (by rw [m.burn_wait]; exact hw) hd' hf

/-- A slice of bools that reads as the list l. -/
def Bls (w : World) (A : Option Addr) (n : Nat) (l : List Bool) : Prop :=
  l.length = n ∧ (0 < n → ∃ b off, A = some ⟨b, off, none⟩ ∧ b < w.heap.size ∧ ∀ i, i < n → w.cell? ⟨b, off + i, none⟩ = some (.bool (l.getD i false)))
theorem Only.bls {F : List Nat} {a b : World} {A : Option Addr} {n : Nat} {l : List Bool} (h : Only F a b) (hb : Bls a A n l) (hA : 0 < n → ∀ x, A = some x → x.block ∉ F) : Bls b A n l :=
  ⟨hb.1, fun hn => by
    obtain ⟨g, off, e, hl, hc⟩ := hb.2 hn
    exact ⟨g, off, e, Nat.lt_of_lt_of_le hl h.size, fun i hi => (h.cell (p := ⟨g, off + i, none⟩) hl (hA hn ⟨g, off, none⟩ e)).trans (hc i hi)⟩⟩

end Go.Proofs.Ytaoldopkehbhkaa
