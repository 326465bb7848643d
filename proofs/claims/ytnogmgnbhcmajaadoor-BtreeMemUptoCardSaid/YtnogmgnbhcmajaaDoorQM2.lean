/-
  btree.Mem: NewMem, Take. · btree.Mem: NewMem, Read.
-/
import Derived.Test.YtnogmgnbhcmajaaDoorQM1
import Derived.Deep.WholeRow
namespace Go.Proofs.YtnogmgnbhcmajaaDoor
open Go.RowKit

/-- The least block that is free. -/
def Least (n : Nat) (f : Nat → Option KB) (i : Nat) : Prop := i < n ∧ f i = none ∧ ∀ j, j < i → f j ≠ none
def zeroKB : KB := (List.replicate 512 0, false)
theorem zeroBlock : (Tryd.prog.info? 59).map (fun i => (i.zero, i.size)) = some (some (.agg (blkC zeroKB)), 513) := by kernel_rfl
theorem zeroPtr : (Tryd.prog.info? 56).map (fun i => (i.zero, i.size, i.bytes)) = some (some (.pointer none), 1, 8) := by kernel_rfl
theorem run_eql_nil_ptr (w : World) (a : Nat) : (binOp .eql 56 (.pointer none) (.pointer (some ⟨a, 0, none⟩))).run Tryd.prog w = .ok (.bool false) w := by
  have h1 : ∀ d, (Op.equalIn (d + 1) 56 (.pointer none) (.pointer (some ⟨a, 0, none⟩))).run Tryd.prog w = .ok false w := fun d => by
    simp [Op.equalIn, run_underlying Tryd.underlying56]
  have h2 : (Op.equal 56 (.pointer none) (.pointer (some ⟨a, 0, none⟩))).run Tryd.prog w = .ok false w := h1 9999
  simp [binOp, h2]
def IndexE (n : Nat) (f : Nat → Option KB) (e : Ending) : Prop := (∃ i, Least n f i ∧ e = .returned (.int .i64 (i : Nat))) ∨ ((∀ j, j < n → f j ≠ none) ∧ e = .returned (.int .i64 (-1)))
set_option maxRecDepth 100000 in
theorem index_any (B : Nat) (w : World) (p g n : Nat) (ad : Nat → Nat) (f : Nat → Option KB) (h : MemIs B w p g n ad f) :
    Calls Tryd.prog 16 #[.slice (some ⟨g, 0, none⟩) n n, .pointer none] w fun e w' => IndexE n f e ∧ w = w' := by
  have H := Lib.hid h
  have hn := h.small
  clear h
  go_enter Tryd.func16, Tryd.ntmps16
  go_wp2
  go_loop [8] (fun i => ∃ k : Nat, k ≤ n ∧ i = .int .i64 k ∧ Hid (∀ j, j < k → f j ≠ none)) (fun i => n - (intOf i).toNat)
  case atStart => exact ⟨0, by omega, rfl, fun j hj => by omega⟩
  case round =>
    obtain ⟨k, hk, rfl, HK⟩ := hrel
    by_cases hlt : k < n
    · have c1 := H.out.ptr k hlt
      unfold ptrC at c1
      cases hf : f k with
      | none =>
        rw [hf] at c1
        have R : Hid (IndexE n f (.returned (.int .i64 (k : Nat)))) := .inl ⟨k, ⟨hlt, hf, HK.out⟩, rfl⟩
        clear hf
        go_wp2
        go_ret
        exact ⟨R.out, rfl⟩
      | some x =>
        rw [hf] at c1
        have HK2 : Hid (∀ j, j < k + 1 → f j ≠ none) := fun j hj => by
          rcases Nat.lt_or_ge j k with h | h
          · exact HK.out j h
          · obtain rfl : j = k := by omega
            rw [hf]
            simp
        have q := run_eql_nil_ptr w (ad k)
        clear hf
        go_wp2
        go_round
        case rel => exact ⟨k + 1, by omega, by go_num, HK2⟩
        case measure => simp [intOf]; omega
    · obtain rfl : k = n := by omega
      have R : Hid (IndexE k f (.returned (.int .i64 (-1)))) := .inr ⟨HK.out, rfl⟩
      go_wp2
      go_ret
      exact ⟨R.out, rfl⟩
/-- A store's map, changed at a block. -/
def put (f : Nat → Option KB) (i : Nat) (x : Option KB) : Nat → Option KB := fun j => if j = i then x else f j
theorem rowC_put {n : Nat} {ad : Nat → Nat} {f : Nat → Option KB} (i a : Nat) (x : Option KB) (hi : i < n) : (rowC n ad f).setIfInBounds i (match x with | none => .pointer none | some _ => .pointer (some ⟨a, 0, none⟩)) = rowC n (fun j => if j = i then a else ad j) (put f i x) := by
  apply Array.ext_getElem?
  intro j
  by_cases hj : j = i
  · subst hj
    rw [Array.getElem?_setIfInBounds_self, rowC_at _ _ _ _ hi, if_pos (by simp [rowC]; exact hi)]
    simp only [ptrC, put, if_true]
    cases x <;> rfl
  · rw [Array.getElem?_setIfInBounds_ne (Ne.symm hj)]
    rcases Nat.lt_or_ge j n with h | h
    · rw [rowC_at _ _ _ _ h, rowC_at _ _ _ _ h]
      simp only [ptrC, put, if_neg hj]
    · rw [Array.getElem?_eq_none (by simp [rowC]; exact h), Array.getElem?_eq_none (by simp [rowC]; exact h)]
/-- What a pointer is put into leaves. -/
theorem MemIs.taken {B : Nat} {w : World} {p g n : Nat} {ad : Nat → Nat} {f : Nat → Option KB} (h : MemIs B w p g n ad f) (i : Nat) (hi : i < n) (a : Nat) (x : KB) (ha : Held w a 59 (blkC x)) (hx : x.1.length = 512) (hb : ∀ y ∈ x.1, y < 256) (hB : B ≤ a) (hnew : ∀ j, f j ≠ none → ad j ≠ a) :
    MemIs B (w.setCell ⟨g, i, none⟩ (.pointer (some ⟨a, 0, none⟩))) p g n (fun j => if j = i then a else ad j) (put f i (some x)) := by
  have hp : p ≠ g := Held.ne_ h.blk h.row (by decide)
  refine ⟨h.blk.far (p := ⟨g, i, none⟩) hp _, ?_, fun j k hk => ?_, fun j k hj hk e => ?_, h.base, h.small⟩
  · have := h.row.set_ i (.pointer (some ⟨a, 0, none⟩))
    rwa [rowC_put i a (some x) hi] at this
  · unfold put at hk
    by_cases hj : j = i
    · rw [if_pos hj] at hk
      injection hk with hk
      subst hk
      rw [if_pos hj]
      exact ⟨by omega, ha.far (p := ⟨g, i, none⟩) (Held.ne_ ha h.row (by decide)) _, hx, hb, hB⟩
    · rw [if_neg hj] at hk
      rw [if_neg hj]
      obtain ⟨a1, a2, a3⟩ := h.each j k hk
      exact ⟨a1, a2.far (p := ⟨g, i, none⟩) (Held.ne_ a2 h.row (by decide)) _, a3⟩
  · unfold put at hj hk
    by_cases c1 : j = i
    · by_cases c2 : k = i
      · omega
      · rw [if_neg c2] at hk
        simp only [if_pos c1, if_neg c2] at e
        exact absurd e.symm (hnew k hk)
    · rw [if_neg c1] at hj
      by_cases c2 : k = i
      · simp only [if_neg c1, if_pos c2] at e
        exact absurd e (hnew j hj)
      · rw [if_neg c2] at hk
        simp only [if_neg c1, if_neg c2] at e
        exact h.inj j k hj hk e
def TakeE (B : Nat) (w : World) (p n : Nat) (f : Nat → Option KB) (e : Ending) (w' : World) : Prop :=
  (∃ i, Least n f i ∧ e = .returned (.tuple #[.int .i64 ((i : Int) + 1), .int .i64 0]) ∧ MemAt B w' p n (put f i (some zeroKB)) ∧ Kp B w w') ∨
  ((∀ j, j < n → f j ≠ none) ∧ e = .returned (.tuple #[.int .i64 0, .int .i64 12]) ∧ w = w')
set_option maxRecDepth 100000 in
set_option maxHeartbeats 1600000 in
theorem take_any (B : Nat) (w : World) (p n : Nat) (f : Nat → Option KB) (hB : B ≤ w.heap.size) (h : MemAt B w p n f) :
    Calls Tryd.prog 6 #[.pointer (some ⟨p, 0, none⟩)] w fun e w' => TakeE B w p n f e w' := by
  obtain ⟨g, ad, h⟩ := h
  have H := Lib.hid h
  have IX := Lib.hid (index_any B w p g n ad f h)
  have hn := h.small
  have c0 : w.cell? ⟨p, 0, none⟩ = some (.slice (some ⟨g, 0, none⟩) n n) := h.blk.cell 0
  clear h
  go_enter Tryd.func6, Tryd.ntmps6
  go_wp2_with fail
  refine IX.out.mono ?_
  rintro e w' ⟨⟨i, hl, rfl⟩ | ⟨hl, rfl⟩, rfl⟩
  · have L := Lib.hid hl
    have hi := hl.1
    have c1 := H.out.ptr i hi
    unfold ptrC at c1
    rw [hl.2.1] at c1
    have z1 := H.out.row.frozen i
    obtain ⟨hz, hsz⟩ := zero_of_info zeroBlock
    have N : Hid (Below w.heap.size w (w.alloc (.cells (blkC zeroKB) 59))) := (Below.refl _ _).alloc (Nat.le_refl _) _
    have H2 := Lib.hid (H.out.under N.out)
    have c2 := H2.out.ptr i hi
    unfold ptrC at c2
    rw [hl.2.1] at c2
    have z2 := H2.out.row.frozen i
    have NB : Hid (Held (w.alloc (.cells (blkC zeroKB) 59)) w.heap.size 59 (blkC zeroKB)) := Held.new _ _ _ rfl
    clear hl IX
    go_wp2_with fail
    go_ret2
    refine .inl ⟨i, L.out, rfl, ⟨g, _, H2.out.taken i hi w.heap.size zeroKB NB.out (by simp [zeroKB]) (fun y hy => by have := List.eq_of_mem_replicate hy; omega) hB (fun j hj e => ?_)⟩, ?_⟩
    · obtain ⟨k, hk⟩ := Option.ne_none_iff_exists'.1 hj
      have := (H.out.each j k hk).2.1.lt
      omega
    · refine (Kp.under N.out).trans ⟨rfl, rfl, rfl, by simp [World.setCell], fun k hk hf => ?_⟩
      refine Below.heap_setCell _ _ _ _ (fun e => ?_)
      rcases hf with h | h
      · have := H.out.base.2
        subst e
        omega
      · subst e
        exact (h _ _ _ H2.out.row).1 rfl
  · have L := Lib.hid hl
    clear hl IX
    go_wp2_with fail
    go_ret2
    exact .inr ⟨L.out, rfl, rfl⟩
end Go.Proofs.YtnogmgnbhcmajaaDoor

namespace Go.Proofs.YtnogmgnbhcmajaaDoor
open Go.RowKit

/-- make([]*block, n). -/
theorem make_ptrs (n : Nat) (h2 : n ≤ 4096) (u : World) : (Instr.makeSlice 52 (.int .i64 (n : Int)) (.int .i64 (n : Int))).run Tryd.prog u = .ok (.slice (some ⟨u.heap.size, 0, none⟩) n n) (u.alloc (.cells (rowC n (fun _ => 0) fun _ => none) 56)) := by
  obtain ⟨i0, hi, hz0, hz1, hz2⟩ := info_parts zeroPtr
  have h := run_make (P := Tryd.prog) u 52 56 i0 (.pointer none) Tryd.underlying52 hi hz0 .i64 .i64 (n : Int) (n : Int) (by omega) (Int.le_refl _) (by rw [hz2]; omega) (by omega)
  have e : (n : Int).toNat = n := by omega
  have e2 : madeCells #[.pointer none] n = rowC n (fun _ => 0) fun _ => none := by
    apply Array.toList_inj.1
    rw [toList_madeCells_one]
    unfold rowC
    rw [List.toList_toArray]
    refine (List.eq_replicate_iff.2 ⟨by simp, fun b hb => ?_⟩).symm
    obtain ⟨i, _, rfl⟩ := List.mem_map.1 hb
    rfl
  rw [e] at h
  rw [← e2]
  simpa [hz1, Value.cells] using h
def capN (k : Int) : Nat := (min (max k 0) 4096).toNat
set_option maxRecDepth 100000 in
theorem newmem_any (B : Nat) (w : World) (hB : B ≤ w.heap.size) (k : Int) :
    Calls Tryd.prog 5 #[.int .i64 k] w fun e w' => ∃ p, e = .returned (.pointer (some ⟨p, 0, none⟩)) ∧ w.heap.size ≤ p ∧ MemAt B w' p (capN k) (fun _ => none) ∧ Below w.heap.size w w' := by
  obtain ⟨n, hn⟩ : ∃ n, n = capN k := ⟨_, rfl⟩
  have h1 : n ≤ 4096 := by rw [hn]; unfold capN; omega
  have h2 : min (max k 0) 4096 = (n : Int) := by rw [hn]; unfold capN; omega
  rw [← hn]
  have FIN : Hid (∀ u, u = (w.alloc (.cells (rowC n (fun _ => 0) fun _ => none) 56)).alloc (.cells #[.slice (some ⟨w.heap.size, 0, none⟩) n n] 54) → MemAt B u (w.heap.size + 1) n (fun _ => none) ∧ Below w.heap.size w u) := fun u hu => by
    obtain ⟨v, hv⟩ : ∃ v, v = w.alloc (.cells (rowC n (fun _ => 0) fun _ => none) 56) := ⟨_, rfl⟩
    rw [← hv] at hu
    have sv : v.heap.size = w.heap.size + 1 := by rw [hv]; exact World.size_alloc _ _
    have b1 : Below w.heap.size w v := by rw [hv]; exact (Below.refl _ _).alloc (Nat.le_refl _) _
    have b2 : Below v.heap.size v u := by rw [hu]; exact (Below.refl _ _).alloc (Nat.le_refl _) _
    have r1 : Held v w.heap.size 56 (rowC n (fun _ => 0) fun _ => none) := by rw [hv]; exact Held.new _ _ _ rfl
    have r2 : Held u (w.heap.size + 1) 54 #[.slice (some ⟨w.heap.size, 0, none⟩) n n] := by rw [hu]; exact Held.new _ _ _ sv.symm
    exact ⟨⟨_, _, r2, r1.below b2 (by omega), fun i x hx => (by cases hx), fun i j hi => absurd rfl hi, ⟨by omega, by omega⟩, h1⟩, b1.trans (b2.mono (by omega))⟩
  rcases (by omega : k < 0 ∨ 4096 < k ∨ (0 ≤ k ∧ k ≤ 4096)) with c | c | ⟨c, c'⟩
  · obtain rfl : n = 0 := by omega
    have mk := make_ptrs 0 (by omega)
    simp only [Int.cast_ofNat_Int] at mk
    clear hn h2 h1
    go_enter Tryd.func5, Tryd.ntmps5
    go_wp2
    all_goals first | omega | skip
    go_ret
    exact ⟨_, rfl, by omega, (FIN.out _ rfl).1, (FIN.out _ rfl).2⟩
  · obtain rfl : n = 4096 := by omega
    have mk := make_ptrs 4096 (by omega)
    simp only [Int.cast_ofNat_Int] at mk
    have c0 : ¬ k < 0 := by omega
    clear hn h2 h1
    go_enter Tryd.func5, Tryd.ntmps5
    go_wp2
    all_goals first | omega | skip
    go_ret
    exact ⟨_, rfl, by omega, (FIN.out _ rfl).1, (FIN.out _ rfl).2⟩
  · obtain rfl : k = (n : Int) := by omega
    have mk := make_ptrs n h1
    clear hn h2
    go_enter Tryd.func5, Tryd.ntmps5
    go_wp2
    all_goals first | omega | skip
    go_ret
    exact ⟨_, rfl, by omega, (FIN.out _ rfl).1, (FIN.out _ rfl).2⟩
theorem Bts.under {w w' : World} {A : Option Addr} {n : Nat} {l : List Nat} (h : Bts w A n l) (k : Below w.heap.size w w') : Bts w' A n l :=
  ⟨h.1, h.2.1, fun hp => by
    obtain ⟨b, off, e, hl, hc⟩ := h.2.2 hp
    exact ⟨b, off, e, Nat.lt_of_lt_of_le hl k.size, fun i hi => (k.cell (p := ⟨b, off + i, none⟩) hl).trans (hc i hi)⟩⟩
theorem info5 : (Tryd.prog.info? 5).map (fun i => (i.zero, i.size, i.bytes)) = some (some (.int .u8 0), 1, 1) := by kernel_rfl
theorem cells5 : Tryd.prog.cellsOf 5 = 1 := by kernel_rfl
theorem byteT : ByteT Tryd.prog 34 5 := ⟨Tryd.underlying34, Tryd.underlying5, cells5, info5⟩
set_option maxRecDepth 100000 in
/-- slices.Clone of bytes. -/
theorem clone_bts (w : World) (a : Addr) (n c : Nat) (l : List Nat) (hb : Bts w (some a) n l) (hn : n ≤ 140737488355328) :
    Calls Tryd.prog 19 #[.slice (some a) n c] w fun e w' => ∃ v, e = .returned v ∧ OwnB w' w.heap.size 5 v l ∧ Below w.heap.size w w' := by
  have HB := Lib.hid hb
  have HO := Lib.hid (ownB_new (w := w) (e := 5) w.heap.size (Nat.le_refl _) w.heap.size rfl)
  have HL := Lib.hid (show n ≤ 140737488355328 from hn)
  have q : ∀ u, (binOp .eql 34 (.slice (some a) n c) (.slice none 0 0)).run Tryd.prog u = .ok (.bool false) u := fun u => by
    simp only [binOp]
    simp [run_equal_slice_nil u 34 5 (some a) n c Tryd.underlying34]
  clear hb hn
  go_enter Tryd.func19, Tryd.ntmps19
  have HB2 : Hid (Bts (w.alloc (.cells #[] 5)) (some a) n l) := HB.out.under ((Below.refl _ _).alloc (Nat.le_refl _) _)
  go_wp2_with (at_builtin; refine wpList_append_bts byteT rfl (.tmp 5) (.tmp 6) rfl w.heap.size _ _ rfl HO.out (some a) n c l rfl HB2.out (by have := HL.out; simp; omega) (by simp) ?_; intro v4 w4 hown4 hg4 hv4; have O4 := Lib.hid hown4; have B4 := Lib.hid (HO.out.grown ((Below.refl _ _).alloc (Nat.le_refl _) _) hg4 (by simp)); clear hown4 hg4 hv4)
  go_ret
  exact ⟨_, rfl, by have := O4.out; rwa [List.nil_append] at this, B4.out⟩
end Go.Proofs.YtnogmgnbhcmajaaDoor
