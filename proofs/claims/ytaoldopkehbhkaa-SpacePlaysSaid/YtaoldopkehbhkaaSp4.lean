/-
  space: pages (an open transaction) as a map is written on it; the contracts of write, good, Make.
-/
import Derived.Test.YtaoldopkehbhkaaSp3
namespace Go.Proofs.Ytaoldopkehbhkaa
open Go.RowKit Go.Maps Wal

/-- Pages: a transaction t of a pager P that lives; g is what it has written. -/
structure Pages (w : World) (P : PS) (t tm : Nat) (g : Nat → Option (List Nat)) : Prop where
  pag : PagAt w P (.pointer (some ⟨t, 0, none⟩))
  tx : TxAt w P t tm g
  dead : P.dead = false
  mdead : P.m.dead = false
  n : 0 < P.N
/-- The blocks of pages. -/
def pfoot (P : PS) (t tm : Nat) : List Nat := P.p :: P.am :: t :: tm :: (P.G ++ P.F)
theorem Pages.only {w w' : World} {P : PS} {t tm : Nat} {g : Nat → Option (List Nat)} {H : List Nat} (h : Pages w P t tm g) (k : Only H w w') (hH : ∀ x ∈ pfoot P t tm, x ∉ H) : Pages w' P t tm g :=
  ⟨h.pag.only k (hH _ (by simp [pfoot])) (hH _ (by simp [pfoot])) (fun x hx => hH x (by simp only [pfoot, List.mem_cons]; exact .inr (.inr (.inr (.inr hx))))), h.tx.only k (hH _ (by simp [pfoot])) (hH _ (by simp [pfoot])), h.dead, h.mdead, h.n⟩
theorem Pages.under {w w' : World} {P : PS} {t tm : Nat} {g : Nat → Option (List Nat)} (h : Pages w P t tm g) (k : Below w.heap.size w w') : Pages w' P t tm g := h.only (Only.of_below (F := []) k) (fun _ _ => by simp)
theorem Pages.drewN {w : World} {P : PS} {t tm : Nat} {g : Nat → Option (List Nat)} (h : Pages w P t tm g) (q : Nat) : Pages (w.drewN q) P t tm g := h.only ((Only.refl [] w).drewN q) (fun _ _ => by simp)
theorem Pages.lt {w : World} {P : PS} {t tm : Nat} {g : Nat → Option (List Nat)} (h : Pages w P t tm g) : ∀ x ∈ pfoot P t tm, x < w.heap.size := fun x hx => by
  simp only [pfoot, List.mem_cons] at hx
  rcases hx with rfl | rfl | rfl | rfl | hx
  · exact h.pag.lt.1
  · exact h.pag.lt.2.1
  · exact h.tx.held.lt
  · exact h.tx.dirty.lt
  · exact h.pag.lt.2.2 x hx
/-- The transaction, as the package's callers hand it on. -/
def ifc (t : Nat) : Value := .iface 25 (.pointer (some ⟨t, 0, none⟩))

theorem load_set {w : World} {g o : Nat} {l : List Nat} (h : SetAt w g o l) (hl : l.length = 512) : (loadCellsFrom ⟨g, o, none⟩ 0 512 #[]).run Try.prog w = .ok (l.map u8v).toArray w := by
  have := run_loadCells_list (P := Try.prog) w ⟨g, o, none⟩ (l.map u8v) (fun j v hv => by
    have hadd : (⟨g, o, none⟩ : Addr).add j = ⟨g, o + j, none⟩ := by unfold Addr.add; split <;> simp_all
    have hj : j < 512 := by
      have := (List.getElem?_eq_some_iff.1 hv).1
      rw [List.length_map] at this
      omega
    rw [hadd, h.at_ j hj]
    rw [List.getElem?_map, List.getElem?_eq_getElem (by omega)] at hv
    rw [List.getD_eq_getElem?_getD, List.getElem?_eq_getElem (by omega)]
    exact hv)
  rw [List.length_map, hl] at this
  exact this
theorem zeroSet : (Try.prog.info? 65).map (fun i => (i.zero, i.size)) = some (some (blkV (sec [])), 512) := by kernel_rfl
theorem store_set (w : World) (l : List Nat) (hl : Blk l) : (storeCells ⟨w.heap.size, 0, none⟩ (l.map u8v) 0).run Try.prog (w.alloc (.cells ((sec []).map u8v).toArray 65)) =
    .ok () (w.alloc (.cells (l.map u8v).toArray 65)) := by
  obtain ⟨_, hi⟩ := zero_of_info zeroSet
  have := run_storeCells_new (P := Try.prog) w 65 ((sec []).map u8v).toArray (l.map u8v).toArray (by rw [hi]; simp [hl.len]) (by simp [sec_length, hl.len]) (by simp [u8v, Value.oneCell'])
  simpa using this

theorem SetAt.range {w : World} {g o : Nat} {l : List Nat} (h : SetAt w g o l) (hl : l.length = 512) : w.rangeAt g o (l.map u8v) := fun j v hv => by
  have hj : j < 512 := by
    have := (List.getElem?_eq_some_iff.1 hv).1
    rw [List.length_map] at this
    omega
  rw [h.at_ j hj]
  rw [List.getElem?_map, List.getElem?_eq_getElem (by omega)] at hv
  rw [List.getD_eq_getElem?_getD, List.getElem?_eq_getElem (by omega)]
  exact hv
set_option maxRecDepth 100000 in
theorem meets_write (t : Nat) (w : World) (n : Nat) (hn : n = Try.prog.types.size + Made.depth) : (method n 25 (.pointer (some ⟨t, 0, none⟩)) "Write").run Try.prog w = .ok (109, .pointer (some ⟨t, 0, none⟩)) w := by
  subst hn
  kernel_rfl
set_option maxRecDepth 100000 in
theorem meets_read (t : Nat) (w : World) (n : Nat) (hn : n = Try.prog.types.size + Made.depth) : (method n 25 (.pointer (some ⟨t, 0, none⟩)) "Read").run Try.prog w = .ok (15, .pointer (some ⟨t, 0, none⟩)) w := by
  subst hn
  kernel_rfl
set_option maxRecDepth 100000 in
set_option maxHeartbeats 1600000 in
/-- The set is written: block 0 is it. -/
theorem swrite_any (w : World) (g o : Nat) (l : List Nat) (P : PS) (t tm : Nat) (f : Nat → Option (List Nat)) (h : SetAt w g o l) (hl : Blk l) (hp : Pages w P t tm f) :
    Calls Try.prog 25 #[.pointer (some ⟨g, o, none⟩), ifc t] w fun e w' => e = .returned (.int .i64 0) ∧ Pages w' P t tm (upd f 0 l) ∧ Only [P.p, tm] w w' := by
  have ld := h.range hl.len
  obtain ⟨hz, hi⟩ := zero_of_info zeroSet
  have hsz : (Try.prog.info? 65).map (·.size) = some (l.map u8v).length := by rw [List.length_map, hl.len]; exact hi
  unfold blkV at hz
  have hs := store_set w l hl
  have hlen := hl.len
  have HP := Lib.hid hp
  have HL := Lib.hid hl
  have HZ := Lib.hid hsz
  clear h hl hp hi hsz
  unfold ifc
  go_enter Try.func25, Try.ntmps25
  go_upto_region 2 with fail
  refine wp_load_mid _ _ rfl g o rfl (l.map u8v) _ ld Try.underlying65 rfl HZ.out ?_
  go_upto_region 2 with fail
  obtain ⟨w1, hw1⟩ : ∃ w1, w1 = w.alloc (.cells (l.map u8v).toArray 65) := ⟨_, rfl⟩
  obtain ⟨q, hq⟩ : ∃ q, q = w.heap.size := ⟨_, rfl⟩
  have BW : Hid (Below w.heap.size w w1) := by rw [hw1]; exact (Below.refl _ _).alloc (Nat.le_refl _) _
  have Q1 : Hid (Held w1 q 65 (l.map u8v).toArray ∧ w.heap.size ≤ q) := ⟨by rw [hw1]; exact Held.new _ _ _ hq, by omega⟩
  have H1 := Lib.hid (HP.out.under BW.out)
  rw [← hw1, ← hq]
  clear hw1 hq hs hz ld
  refine wp_region_noPanic ?_
  refine wp_region_held_drew (S := fun _ => True) (by kernel_rfl) trivial (fun hHeld => ?_)
  refine take_ (i := 0) (v := ?_) 9 rfl rfl (by kernel_rfl) (by kernel_rfl) (by kernel_rfl) (fun _ _ _ h => h) (Or.inl ⟨by rfl, ?_⟩) (by assumption) ?_
  rotate_left
  · (intro wS hSw; (try dsimp only at hSw); go_simp; try with_reducible rfl)
  simp only [Act.put, List.setIfInBounds_toArray, List.set_cons_zero, List.set_cons_succ]
  refine take_ (i := 1) (v := ?_) 10 rfl rfl (by kernel_rfl) (by kernel_rfl) (by kernel_rfl) (fun _ _ _ h => h) (Or.inl ⟨by rfl, ?_⟩) (by assumption) ?_
  rotate_left
  · (intro wS hSw; (try dsimp only at hSw); go_simp; try with_reducible rfl)
  simp only [Act.put, List.setIfInBounds_toArray, List.set_cons_zero, List.set_cons_succ]
  refine take_ (i := 2) (v := .func (Fn.method "Write") #[.iface 25 (.pointer (some ⟨t, 0, none⟩))] #[]) 11 rfl rfl (by kernel_rfl) (by kernel_rfl) (by kernel_rfl) (fun _ _ _ h => h) (Or.inl ⟨by rfl, fun wS _ => by kernel_rfl⟩) (by assumption) ?_
  simp only [Act.put, List.setIfInBounds_toArray, List.set_cons_zero, List.set_cons_succ]
  refine take_ (i := 3) (v := .func (Fn.method "Write") #[.iface 25 (.pointer (some ⟨t, 0, none⟩))] #[]) 12 rfl rfl (by kernel_rfl) (by kernel_rfl) (by kernel_rfl) (fun _ _ _ h => h) (Or.inl ⟨by rfl, fun wS _ => by kernel_rfl⟩) (by assumption) ?_
  simp only [Act.put, List.setIfInBounds_toArray, List.set_cons_zero, List.set_cons_succ]
  refine take_ (i := 4) (v := ?_) 13 rfl rfl (by kernel_rfl) (by kernel_rfl) (by kernel_rfl) (fun _ _ _ h => h) (Or.inl ⟨by rfl, ?_⟩) (by assumption) ?_
  rotate_left
  · (intro wS hSw; (try dsimp only at hSw); go_simp; try with_reducible rfl)
  simp only [Act.put, List.setIfInBounds_toArray, List.set_cons_zero, List.set_cons_succ]
  refine one_ (i := 5) _ (by kernel_rfl) rfl (fun K hK => ?_)
  go_simp
  rw [meets_write]
  case hn => kernel_rfl
  go_simp
  have TW := twrite_any w1.drew P t tm f 0 (some ⟨q, 0, none⟩) 512 512 l (H1.out.drewN 1).pag (H1.out.drewN 1).tx HP.out.n HP.out.dead HP.out.mdead (show Bts w1.drew (some ⟨q, 0, none⟩) 512 l from Q1.out.1.bts HL.out) (by omega) (fun _ x hx => by
    injection hx with hx
    subst hx
    have h1 := HP.out.lt P.p (by simp [pfoot])
    have h2 := HP.out.lt tm (by simp [pfoot])
    have h3 := Q1.out.2
    exact ⟨by show q ≠ _; omega, by show q ≠ _; omega⟩)
  rw [sec_full hlen] at TW
  refine TW.mono ?_
  rintro e w2 ⟨rfl, hp2, hk2, ho2⟩
  have R : Hid (Pages w2 P t tm (upd f 0 l) ∧ Only [P.p, tm] w w2) := ⟨⟨hp2, hk2, HP.out.dead, HP.out.mdead, HP.out.n⟩, ((Only.of_below (F := [P.p, tm]) BW.out).drew).trans ho2 (fun x hx => .inl hx)⟩
  clear TW hp2 hk2 ho2
  go_wp2_with fail
  refine hK.out _ _ trivial (fun hHeld => ?_)
  clear hK K
  refine take_ (i := 6) (v := ?_) 4 rfl rfl (by kernel_rfl) (by kernel_rfl) (by kernel_rfl) (fun _ _ _ h => h) (Or.inl ⟨by rfl, ?_⟩) (by assumption) ?_
  rotate_left
  · (intro wS hSw; (try dsimp only at hSw); go_simp; try with_reducible rfl)
  simp only [Act.put, List.setIfInBounds_toArray, List.set_cons_zero, List.set_cons_succ]
  refine wpAnyH_done (by kernel_rfl) ?_ _
  refine NoPanic.normal ?_
  go_wp2_with fail
  go_ret
  exact ⟨rfl, R.out.1, R.out.2⟩

theorem good_yes (w : World) (t : Nat) (n : Nat) (h : 2 ≤ n ∧ n ≤ 4096) :
    Calls Try.prog 23 #[ifc t, .int .i64 (n : Int)] w fun e w' => e = .returned (.bool true) ∧ w = w' := by
  have k1 : (2 : Int) ≤ (n : Int) := by omega
  have k2 : (n : Int) ≤ 4096 := by omega
  unfold ifc
  go_enter Try.func23, Try.ntmps23
  go_wp2_with fail
  go_ret
  exact ⟨rfl, rfl⟩
end Go.Proofs.Ytaoldopkehbhkaa
