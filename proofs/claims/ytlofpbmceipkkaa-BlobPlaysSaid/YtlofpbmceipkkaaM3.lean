/-
  btree.Mem: NewMem, Read.
-/
import Derived.Test.YtlofpbmceipkkaaM2
namespace Go.Proofs.Ytlofpbmceipkkaa
open Go.RowKit

/-- make([]*block, n). -/
theorem make_ptrs (n : Nat) (h2 : n ≤ 4096) (u : World) : (Instr.makeSlice 52 (.int .i64 (n : Int)) (.int .i64 (n : Int))).run Try.prog u = .ok (.slice (some ⟨u.heap.size, 0, none⟩) n n) (u.alloc (.cells (rowC n (fun _ => 0) fun _ => none) 93)) := by
  obtain ⟨i0, hi, hz0, hz1, hz2⟩ := info_parts zeroPtr
  have h := run_make (P := Try.prog) u 52 93 i0 (.pointer none) Try.underlying52 hi hz0 .i64 .i64 (n : Int) (n : Int) (by omega) (Int.le_refl _) (by rw [hz2]; omega) (by omega)
  have e : (n : Int).toNat = n := by omega
  have e2 : madeCells #[.pointer none] n = rowC n (fun _ => 0) fun _ => none := by
    apply Array.toList_inj.1
    rw [toList_madeCells_one]
    unfold rowC
    rw [List.toList_toArray]
    refine (List.eq_replicate_iff.2 ⟨by simp, fun b hb => ?_⟩).symm
    obtain ⟨i, _, rfl⟩ := List.mem_map.1 hb
    rfl
  rw [e] at h
  rw [← e2]
  simpa [hz1, Value.cells] using h
def capN (k : Int) : Nat := (min (max k 0) 4096).toNat
set_option maxRecDepth 100000 in
theorem newmem_any (B : Nat) (w : World) (hB : B ≤ w.heap.size) (k : Int) :
    Calls Try.prog 7 #[.int .i64 k] w fun e w' => ∃ p, e = .returned (.pointer (some ⟨p, 0, none⟩)) ∧ w.heap.size ≤ p ∧ MemAt B w' p (capN k) (fun _ => none) ∧ Below w.heap.size w w' := by
  obtain ⟨n, hn⟩ : ∃ n, n = capN k := ⟨_, rfl⟩
  have h1 : n ≤ 4096 := by rw [hn]; unfold capN; omega
  have h2 : min (max k 0) 4096 = (n : Int) := by rw [hn]; unfold capN; omega
  rw [← hn]
  have FIN : Hid (∀ u, u = (w.alloc (.cells (rowC n (fun _ => 0) fun _ => none) 93)).alloc (.cells #[.slice (some ⟨w.heap.size, 0, none⟩) n n] 54) → MemAt B u (w.heap.size + 1) n (fun _ => none) ∧ Below w.heap.size w u) := fun u hu => by
    obtain ⟨v, hv⟩ : ∃ v, v = w.alloc (.cells (rowC n (fun _ => 0) fun _ => none) 93) := ⟨_, rfl⟩
    rw [← hv] at hu
    have sv : v.heap.size = w.heap.size + 1 := by rw [hv]; exact World.size_alloc _ _
    have b1 : Below w.heap.size w v := by rw [hv]; exact (Below.refl _ _).alloc (Nat.le_refl _) _
    have b2 : Below v.heap.size v u := by rw [hu]; exact (Below.refl _ _).alloc (Nat.le_refl _) _
    have r1 : Held v w.heap.size 93 (rowC n (fun _ => 0) fun _ => none) := by rw [hv]; exact Held.new _ _ _ rfl
    have r2 : Held u (w.heap.size + 1) 54 #[.slice (some ⟨w.heap.size, 0, none⟩) n n] := by rw [hu]; exact Held.new _ _ _ sv.symm
    exact ⟨⟨_, _, r2, r1.below b2 (by omega), fun i x hx => (by cases hx), fun i j hi => absurd rfl hi, ⟨by omega, by omega⟩, h1⟩, b1.trans (b2.mono (by omega))⟩
  rcases (by omega : k < 0 ∨ 4096 < k ∨ (0 ≤ k ∧ k ≤ 4096)) with c | c | ⟨c, c'⟩
  · obtain rfl : n = 0 := by omega
    have mk := make_ptrs 0 (by omega)
    simp only [Int.cast_ofNat_Int] at mk
    clear hn h2 h1
    go_enter Try.func7, Try.ntmps7
    go_wp2
    all_goals first | omega | skip
    go_ret
    exact ⟨_, rfl, by omega, (FIN.out _ rfl).1, (FIN.out _ rfl).2⟩
  · obtain rfl : n = 4096 := by omega
    have mk := make_ptrs 4096 (by omega)
    simp only [Int.cast_ofNat_Int] at mk
    have c0 : ¬ k < 0 := by omega
    clear hn h2 h1
    go_enter Try.func7, Try.ntmps7
    go_wp2
    all_goals first | omega | skip
    go_ret
    exact ⟨_, rfl, by omega, (FIN.out _ rfl).1, (FIN.out _ rfl).2⟩
  · obtain rfl : k = (n : Int) := by omega
    have mk := make_ptrs n h1
    clear hn h2
    go_enter Try.func7, Try.ntmps7
    go_wp2
    all_goals first | omega | skip
    go_ret
    exact ⟨_, rfl, by omega, (FIN.out _ rfl).1, (FIN.out _ rfl).2⟩
theorem Bts.under {w w' : World} {A : Option Addr} {n : Nat} {l : List Nat} (h : Bts w A n l) (k : Below w.heap.size w w') : Bts w' A n l :=
  ⟨h.1, h.2.1, fun hp => by
    obtain ⟨b, off, e, hl, hc⟩ := h.2.2 hp
    exact ⟨b, off, e, Nat.lt_of_lt_of_le hl k.size, fun i hi => (k.cell (p := ⟨b, off + i, none⟩) hl).trans (hc i hi)⟩⟩
theorem info5 : (Try.prog.info? 5).map (fun i => (i.zero, i.size, i.bytes)) = some (some (.int .u8 0), 1, 1) := by kernel_rfl
theorem cells5 : Try.prog.cellsOf 5 = 1 := by kernel_rfl
theorem byteT : ByteT Try.prog 45 5 := ⟨Try.underlying45, Try.underlying5, cells5, info5⟩
set_option maxRecDepth 100000 in
/-- slices.Clone of bytes. -/
theorem clone_bts (w : World) (a : Addr) (n c : Nat) (l : List Nat) (hb : Bts w (some a) n l) (hn : n ≤ 140737488355328) :
    Calls Try.prog 100 #[.slice (some a) n c] w fun e w' => ∃ v, e = .returned v ∧ OwnB w' w.heap.size 5 v l ∧ Below w.heap.size w w' := by
  have HB := Lib.hid hb
  have HO := Lib.hid (ownB_new (w := w) (e := 5) w.heap.size (Nat.le_refl _) w.heap.size rfl)
  have HL := Lib.hid (show n ≤ 140737488355328 from hn)
  have q : ∀ u, (binOp .eql 45 (.slice (some a) n c) (.slice none 0 0)).run Try.prog u = .ok (.bool false) u := fun u => by
    simp only [binOp]
    simp [run_equal_slice_nil u 45 5 (some a) n c Try.underlying45]
  clear hb hn
  go_enter Try.func100, Try.ntmps100
  have HB2 : Hid (Bts (w.alloc (.cells #[] 5)) (some a) n l) := HB.out.under ((Below.refl _ _).alloc (Nat.le_refl _) _)
  go_wp2_with (at_builtin; refine wpList_append_bts byteT rfl (.tmp 5) (.tmp 6) rfl w.heap.size _ _ rfl HO.out (some a) n c l rfl HB2.out (by have := HL.out; simp; omega) (by simp) ?_; intro v4 w4 hown4 hg4 hv4; have O4 := Lib.hid hown4; have B4 := Lib.hid (HO.out.grown ((Below.refl _ _).alloc (Nat.le_refl _) _) hg4 (by simp)); clear hown4 hg4 hv4)
  go_ret
  exact ⟨_, rfl, by have := O4.out; rwa [List.nil_append] at this, B4.out⟩
end Go.Proofs.Ytlofpbmceipkkaa
