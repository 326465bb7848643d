/-
  pager: the calls of a nil pager and of a nil transaction; the document's Full.
-/
import Derived.Test.YtkajneeihhobhaaGreatMPgQ
namespace Go.Proofs.YtkajneeihhobhaaGreat
open Go.RowKit Go.Maps Wal Pgr

theorem pn_alive (w : World) : Calls Tryz.prog 40 #[.pointer none] w fun e w' => e = .returned (.int .i64 2) ∧ w = w' := by
  go_enter Tryz.func40, Tryz.ntmps40
  go_wp2_with fail
  go_ret
  exact ⟨rfl, rfl⟩
theorem pn_open (w : World) : Calls Tryz.prog 48 #[.pointer none] w fun e w' => e = .returned (.bool false) ∧ w = w' := by
  go_enter Tryz.func48, Tryz.ntmps48
  go_wp2_with fail
  go_ret
  exact ⟨rfl, rfl⟩
theorem pn_talive (w : World) : Calls Tryz.prog 42 #[.pointer none] w fun e w' => e = .returned (.int .i64 2) ∧ w = w' := by
  have O := Lib.hid (pn_open w)
  go_enter Tryz.func42, Tryz.ntmps42
  go_wp2_with fail
  refine O.out.mono ?_
  rintro e w' ⟨rfl, rfl⟩
  go_wp2_with fail
  go_ret
  exact ⟨rfl, rfl⟩
theorem pn_begin (w : World) : Calls Tryz.prog 14 #[.pointer none] w fun e w' => e = .returned (.tuple #[.pointer none, .int .i64 2]) ∧ w = w' := by
  have O := Lib.hid (pn_alive w)
  go_enter Tryz.func14, Tryz.ntmps14
  go_wp2_with fail
  refine O.out.mono ?_
  rintro e w' ⟨rfl, rfl⟩
  go_wp2_with fail
  go_ret2
  exact ⟨rfl, rfl⟩
theorem pn_read (w : World) (b : Int) : Calls Tryz.prog 28 #[.pointer none, .int .i64 b] w fun e w' => e = .returned (.tuple #[.slice none 0 0, .int .i64 2]) ∧ w = w' := by
  have O := Lib.hid (pn_talive w)
  go_enter Tryz.func28, Tryz.ntmps28
  go_wp2_with fail
  refine O.out.mono ?_
  rintro e w' ⟨rfl, rfl⟩
  go_wp2_with fail
  go_ret2
  exact ⟨rfl, rfl⟩
theorem pn_write (w : World) (b : Int) (v : Value) : Calls Tryz.prog 27 #[.pointer none, .int .i64 b, v] w fun e w' => e = .returned (.int .i64 2) ∧ w = w' := by
  have O := Lib.hid (pn_talive w)
  go_enter Tryz.func27, Tryz.ntmps27
  go_wp2_with fail
  refine O.out.mono ?_
  rintro e w' ⟨rfl, rfl⟩
  go_wp2_with fail
  go_ret
  exact ⟨rfl, rfl⟩
theorem pn_commit (w : World) : Calls Tryz.prog 16 #[.pointer none] w fun e w' => e = .returned (.tuple #[.int .i64 0, .int .i64 2]) ∧ w = w' := by
  have O := Lib.hid (pn_talive w)
  go_enter Tryz.func16, Tryz.ntmps16
  go_wp2_with fail
  refine O.out.mono ?_
  rintro e w' ⟨rfl, rfl⟩
  go_wp2_with fail
  go_ret2
  exact ⟨rfl, rfl⟩
theorem pn_abort (w : World) : Calls Tryz.prog 18 #[.pointer none] w fun e w' => e = .returned (.tuple #[]) ∧ w = w' := by
  have O := Lib.hid (pn_open w)
  go_enter Tryz.func18, Tryz.ntmps18
  go_wp2_with fail
  refine O.out.mono ?_
  rintro e w' ⟨rfl, rfl⟩
  go_wp2_with fail
  go_end0
  exact ⟨rfl, rfl⟩
theorem pn_dirty (w : World) : Calls Tryz.prog 23 #[.pointer none] w fun e w' => e = .returned (.int .i64 0) ∧ w = w' := by
  have O := Lib.hid (pn_open w)
  go_enter Tryz.func23, Tryz.ntmps23
  go_wp2_with fail
  refine O.out.mono ?_
  rintro e w' ⟨rfl, rfl⟩
  go_wp2_with fail
  go_ret
  exact ⟨rfl, rfl⟩
theorem pn_blocks (w : World) : Calls Tryz.prog 13 #[.pointer none] w fun e w' => e = .returned (.int .i64 0) ∧ w = w' := by
  go_enter Tryz.func13, Tryz.ntmps13
  go_wp2_with fail
  go_ret
  exact ⟨rfl, rfl⟩
theorem pn_done (w : World) : Calls Tryz.prog 21 #[.pointer none] w fun e w' => e = .returned (.int .i64 0) ∧ w = w' := by
  go_enter Tryz.func21, Tryz.ntmps21
  go_wp2_with fail
  go_ret
  exact ⟨rfl, rfl⟩
theorem pn_synced (w : World) : Calls Tryz.prog 20 #[.pointer none] w fun e w' => e = .returned (.int .i64 0) ∧ w = w' := by
  go_enter Tryz.func20, Tryz.ntmps20
  go_wp2_with fail
  go_ret
  exact ⟨rfl, rfl⟩
theorem pn_sync (w : World) : Calls Tryz.prog 19 #[.pointer none] w fun e w' => e = .returned (.int .i64 2) ∧ w = w' := by
  have O := Lib.hid (pn_alive w)
  go_enter Tryz.func19, Tryz.ntmps19
  go_wp2_with fail
  refine O.out.mono ?_
  rintro e w' ⟨rfl, rfl⟩
  go_wp2_with fail
  go_ret
  exact ⟨rfl, rfl⟩
set_option maxRecDepth 100000 in
theorem pfull_any (w : World) (l : List Nat) (hl : ∀ x ∈ l, x < 256) (hs : l.length ≤ 512) :
    Calls Tryz.prog 29 #[.string (strB l)] w fun e w' => e = .returned (.string (strB (sec l))) ∧ Below w.heap.size w w' := by
  have hl' := Lib.hid hl
  clear hl
  have hmk : ∀ u, (Instr.makeSlice 56 (.int .i64 512) (.int .i64 512)).run Tryz.prog u = .ok (.slice (some ⟨u.heap.size, 0, none⟩) 512 512) (u.alloc (.cells (madeCells #[.int .u8 0] 512) 5)) := fun u => run_make_bts byteT 512 (by omega) .i64 .i64 u
  have HZ := Lib.hid (own_zeros (e := 5) w 512 (by simp [maxLen]) w.heap.size rfl w.heap.size (Nat.le_refl _))
  go_enter Tryz.func29, Tryz.ntmps29
  go_wp2_with (refine wpList_copy_str byteT (o := ⟨some 7, _, _, _, _, _⟩) rfl (.tmp 5) (.tmp 6) 9 rfl rfl rfl HZ.out List.length_replicate hs hl'.out ?_; intro w1 ho hg)
  have e : (List.replicate 512 0).drop l.length = List.replicate (512 - l.length) 0 := by rw [List.drop_replicate]
  rw [e, ← sec_short hs] at ho
  obtain ⟨g1, c1, hg1, _, _, hbt, _⟩ := ho.form' (sec_length l) (by omega)
  injection hg1 with hg1 _ hc1
  injection hg1 with hg1
  injection hg1 with hg1
  subst hg1 hc1
  have hcv := hbt.toStr byteT Tryz.underlying9 512
  have HB : Hid (Below w.heap.size w w1) := ((Below.refl _ _).alloc (Nat.le_refl _) _).grown hg (by simp) (fun k hk => by injection hk with hk; omega)
  clear ho hg hbt e
  go_wp2_with fail
  go_ret
  exact ⟨rfl, HB.out⟩
end Go.Proofs.YtkajneeihhobhaaGreat
