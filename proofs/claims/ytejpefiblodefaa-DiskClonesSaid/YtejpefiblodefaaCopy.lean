/-
  The contract of the document's own Copy.
-/
import Derived.Test.YtejpefiblodefaaClone
namespace Go.Proofs.Ytejpefiblodefaa
open Go.RowKit

/-- Within Copy: what has been made so far. -/
structure CInv (w X : World) (x1 x2 : Option (Value × Nat × List Value)) : Prop where
  below : Below w.heap.size w X
  r1 : ∀ t, x1 = some t → X.ownsRow w.heap.size 67 2 t.1 t.2.1 t.2.2
  r2 : ∀ t, x2 = some t → X.ownsRow w.heap.size 67 2 t.1 t.2.1 t.2.2
  ap : ∀ t s, x1 = some t → x2 = some s → ∀ g, t.1.ownBlock = some g → s.1.ownBlock ≠ some g

section
variable {w X Y : World} {x1 x2 : Option (Value × Nat × List Value)} {v v' : Value} {n m : Nat} {xs ys : List Value} {d : Nat} {vd vw : Value} {r : Dsk.RM}
theorem CInv.le (h : CInv w X x1 x2) : w.heap.size ≤ X.heap.size := h.below.size
theorem CInv.swap (h : CInv w X x1 x2) : CInv w X x2 x1 := ⟨h.below, h.r2, h.r1, fun t s ht hs g hg e => h.ap s t hs ht g e hg⟩
theorem CInv.row1 (h : CInv w X (some (v, n, xs)) x2) : X.ownsRow w.heap.size 67 2 v n xs := h.r1 _ rfl
theorem CInv.row2 (h : CInv w X x1 (some (v, n, xs))) : X.ownsRow w.heap.size 67 2 v n xs := h.r2 _ rfl
theorem CInv.alloc1 (h : CInv w X none x2) : CInv w (X.alloc (.cells #[] 67)) (some (.slice (some ⟨X.heap.size, 0, none⟩) 0 0, 0, [])) x2 := by
  refine ⟨h.below.alloc h.le _, fun t ht => ?_, fun t ht => (h.r2 t ht).alloc _, fun t s ht hs g hg e => ?_⟩
  · injection ht with ht
    subst ht
    exact own_base (empty_row X 67 2) h.le
  · injection ht with ht
    subst ht
    have h1 : X.heap.size = g := by simpa [Value.ownBlock] using hg
    have := (h.r2 s hs).lt g e
    omega
theorem CInv.alloc2 (h : CInv w X x1 none) : CInv w (X.alloc (.cells #[] 67)) x1 (some (.slice (some ⟨X.heap.size, 0, none⟩) 0 0, 0, [])) := h.swap.alloc1.swap
theorem CInv.app1 (h : CInv w X (some (v, n, xs)) x2) (hown : Y.ownsRow w.heap.size 67 2 v' (n + m) (xs ++ ys)) (hg : X.grownBy Y v.ownBlock) (hat : v'.ownBlock = v.ownBlock ∨ v'.ownBlock = some X.heap.size) :
    CInv w Y (some (v', n + m, xs ++ ys)) x2 := by
  have k2 : ∀ t, x2 = some t → Y.ownsRow w.heap.size 67 2 t.1 t.2.1 t.2.2 := fun t ht => (h.r2 t ht).kept hg (by
    cases hv : t.1.ownBlock with
    | none => exact .inl rfl
    | some g => exact .inr (fun e => h.ap _ t rfl ht g (by rw [← e]) hv))
  refine ⟨h.below.grown hg h.le (fun k hk => (h.row1.lt k hk).1), fun t ht => ?_, k2, fun t s ht hs g hgg e => ?_⟩
  · injection ht with ht
    subst ht
    exact hown
  · injection ht with ht
    subst ht
    rcases hat with h1 | h1
    · exact h.ap _ s rfl hs g (h1.symm.trans hgg) e
    · have h2 : X.heap.size = g := by
        have := h1.symm.trans hgg
        injection this
      have := (h.r2 s hs).lt g e
      omega
theorem CInv.app2 (h : CInv w X x1 (some (v, n, xs))) (hown : Y.ownsRow w.heap.size 67 2 v' (n + m) (xs ++ ys)) (hg : X.grownBy Y v.ownBlock) (hat : v'.ownBlock = v.ownBlock ∨ v'.ownBlock = some X.heap.size) :
    CInv w Y x1 (some (v', n + m, xs ++ ys)) := (h.swap.app1 hown hg hat).swap
theorem CInv.src (h : CInv w X x1 x2) (k : RefIs w d vd vw r) : RefIs X d vd vw r := k.only (Only.of_below (F := []) h.below) (fun _ _ hx => by cases hx)

/-- The five cells of the document's disk. -/
def Five (d : Nat) (vd vw : Value) (r : Dsk.RM) (X : World) : Prop :=
  X.cell? ⟨d, 0, none⟩ = some (.int .i64 (r.n : Int)) ∧ X.cell? ⟨d, 1, none⟩ = some vd ∧ X.cell? ⟨d, 2, none⟩ = some vw ∧ X.cell? ⟨d, 3, none⟩ = some (.int .i64 r.fuel) ∧ X.cell? ⟨d, 4, none⟩ = some (.bool r.dead)
theorem CInv.cells' (h : CInv w X x1 x2) (k : RefIs w d vd vw r) : X.cell? ⟨d, 0, none⟩ = some (.int .i64 (r.n : Int)) ∧ X.cell? ⟨d, 1, none⟩ = some vd ∧ X.cell? ⟨d, 2, none⟩ = some vw ∧ X.cell? ⟨d, 3, none⟩ = some (.int .i64 r.fuel) ∧ X.cell? ⟨d, 4, none⟩ = some (.bool r.dead) := (h.src k).cells
theorem CInv.cells (h : CInv w X x1 x2) (k : RefIs w d vd vw r) (o : Obj) : (X.alloc o).cell? ⟨d, 0, none⟩ = some (.int .i64 (r.n : Int)) ∧ (X.alloc o).cell? ⟨d, 1, none⟩ = some vd ∧ (X.alloc o).cell? ⟨d, 2, none⟩ = some vw ∧ (X.alloc o).cell? ⟨d, 3, none⟩ = some (.int .i64 r.fuel) ∧ (X.alloc o).cell? ⟨d, 4, none⟩ = some (.bool r.dead) := ((h.src k).alloc o).cells
theorem copy_done {va vb : Value} (k : RefIs w d vd vw r) (h : CInv w X (some (va, 0 + r.done.length, [] ++ waitCells r.done)) (some (vb, 0 + r.waits.length, [] ++ waitCells r.waits))) (o : Array Value) (ho : o = #[.int .i64 (r.n : Int), va, vb, .int .i64 r.fuel, .bool r.dead]) :
    NewRef w r (.returned (.pointer (some ⟨X.heap.size, 0, none⟩))) (X.alloc (.cells o 31)) := by
  subst ho
  have h1 := h.row1
  have h2 := h.row2
  rw [Nat.zero_add, List.nil_append] at h1 h2
  refine ⟨_, _, rfl, ⟨va, vb, ⟨Held.new _ _ _ rfl, (own_base h1 (Nat.zero_le _)).alloc _, (own_base h2 (Nat.zero_le _)).alloc _, fun g hg => h.ap _ _ rfl rfl g hg, k.db, k.wb, k.f0, k.f1, k.nn⟩, rfl⟩, h.below.alloc h.le _, fun x hx => ?_⟩
  rcases mem_refFoot.1 hx with rfl | hx | hx
  · exact h.le
  · exact (h1.lt x hx).1
  · exact (h2.lt x hx).1
end

set_option maxRecDepth 100000 in
set_option maxHeartbeats 4000000 in
theorem copy_any (w : World) (d : Nat) (F : List Nat) (r : Dsk.RM) (h : RefAt w d F r) (hn : r.done.length + r.waits.length ≤ 5800000000000) :
    Calls Try.prog 22 #[.pointer (some ⟨d, 0, none⟩)] w (NewRef w r) := by
  obtain ⟨vd, vw, h, rfl⟩ := h
  have H := Lib.hid h
  obtain ⟨c0, c1, c2, c3, c4⟩ := h.cells
  obtain ⟨i0, hi0, hz0, hz1, hz2⟩ := info_parts infoP
  have K31 : Hid (0 + r.done.length ≤ maxLen) := by show _ ≤ _; simp only [maxLen]; omega
  have K41 : Hid ((0 + r.done.length) * 24 ≤ 140737488355328) := by show _ ≤ _; omega
  have K32 : Hid (0 + r.waits.length ≤ maxLen) := by show _ ≤ _; simp only [maxLen]; omega
  have K42 : Hid ((0 + r.waits.length) * 24 ≤ 140737488355328) := by show _ ≤ _; omega
  clear h
  go_enter Try.func22, Try.ntmps22
  go_wp2_with fail
  refine wp_region_noPanic ?_
  refine wp_region_held_drew (S := fun X => X.cell? ⟨d, 0, none⟩ = some (.int .i64 (r.n : Int)) ∧ X.cell? ⟨d, 1, none⟩ = some vd ∧ X.cell? ⟨d, 2, none⟩ = some vw ∧ X.cell? ⟨d, 3, none⟩ = some (.int .i64 r.fuel) ∧ X.cell? ⟨d, 4, none⟩ = some (.bool r.dead)) (by kernel_rfl) ⟨c0, c1, c2, c3, c4⟩ (fun hHeld => ?_)
  have C0 : Hid (CInv w w.drew none none) := ⟨(Below.refl _ _).drew, fun t ht => (by cases ht), fun t ht => (by cases ht), fun t s ht => (by cases ht)⟩
  generalize w.drew = w0 at *
  refine take_ (i := 0) (v := ?_) 3 rfl rfl (by kernel_rfl) (by kernel_rfl) (by kernel_rfl) (fun _ _ _ h => h) (Or.inl ⟨by rfl, ?_⟩) (by assumption) ?_
  rotate_left
  · (intro wS hSw; (try dsimp only at hSw); go_simp; try with_reducible rfl)
  simp only [Act.put, List.setIfInBounds_toArray, List.set_cons_zero, List.set_cons_succ]
  refine take_ (i := 1) (v := ?_) 4 rfl rfl (by kernel_rfl) (by kernel_rfl) (by kernel_rfl) (fun _ _ _ h => h) (Or.inl ⟨by rfl, ?_⟩) (by assumption) ?_
  rotate_left
  · (intro wS hSw; (try dsimp only at hSw); go_simp; try with_reducible rfl)
  simp only [Act.put, List.setIfInBounds_toArray, List.set_cons_zero, List.set_cons_succ]
  refine take_ (i := 2) (v := ?_) 5 rfl rfl (by kernel_rfl) (by kernel_rfl) (by kernel_rfl) (fun _ _ _ h => h) (Or.inl ⟨by rfl, ?_⟩) (by assumption) ?_
  rotate_left
  · (intro wS hSw; (try dsimp only at hSw); go_simp; try with_reducible rfl)
  simp only [Act.put, List.setIfInBounds_toArray, List.set_cons_zero, List.set_cons_succ]
  refine take_ (i := 3) (v := ?_) 6 rfl rfl (by kernel_rfl) (by kernel_rfl) (by kernel_rfl) (fun _ _ _ h => h) (Or.inl ⟨by rfl, ?_⟩) (by assumption) ?_
  rotate_left
  · (intro wS hSw; (try dsimp only at hSw); go_simp; try with_reducible rfl)
  simp only [Act.put, List.setIfInBounds_toArray, List.set_cons_zero, List.set_cons_succ]
  refine take_ (i := 5) (v := ?_) 8 rfl rfl (by kernel_rfl) (by kernel_rfl) (by kernel_rfl) (fun _ _ _ h => h) (Or.inl ⟨by rfl, ?_⟩) (by assumption) ?_
  rotate_left
  · (intro wS hSw; (try dsimp only at hSw); go_simp; try with_reducible rfl)
  simp only [Act.put, List.setIfInBounds_toArray, List.set_cons_zero, List.set_cons_succ]
  refine take_ (i := 6) (v := ?_) 9 rfl rfl (by kernel_rfl) (by kernel_rfl) (by kernel_rfl) (fun _ _ _ h => h) (Or.inl ⟨by rfl, ?_⟩) (by assumption) ?_
  rotate_left
  · (intro wS hSw; (try dsimp only at hSw); go_simp; try with_reducible rfl)
  simp only [Act.put, List.setIfInBounds_toArray, List.set_cons_zero, List.set_cons_succ]
  refine take_ (i := 7) (v := ?_) 10 rfl rfl (by kernel_rfl) (by kernel_rfl) (by kernel_rfl) (fun _ _ _ h => h) (Or.inl ⟨by rfl, ?_⟩) (by assumption) ?_
  rotate_left
  · (intro wS hSw; (try dsimp only at hSw); go_simp; try with_reducible rfl)
  simp only [Act.put, List.setIfInBounds_toArray, List.set_cons_zero, List.set_cons_succ]
  refine take_ (i := 8) (v := ?_) 11 rfl rfl (by kernel_rfl) (by kernel_rfl) (by kernel_rfl) (fun _ _ _ h => h) (Or.inl ⟨by rfl, ?_⟩) (by assumption) ?_
  rotate_left
  · (intro wS hSw; (try dsimp only at hSw); go_simp; try with_reducible rfl)
  simp only [Act.put, List.setIfInBounds_toArray, List.set_cons_zero, List.set_cons_succ]
  refine take_ (i := 11) (v := ?_) 14 rfl rfl (by kernel_rfl) (by kernel_rfl) (by kernel_rfl) (fun _ _ _ h => h) (Or.inl ⟨by rfl, ?_⟩) (by assumption) ?_
  rotate_left
  · (intro wS hSw; (try dsimp only at hSw); go_simp; try with_reducible rfl)
  simp only [Act.put, List.setIfInBounds_toArray, List.set_cons_zero, List.set_cons_succ]
  refine take_ (i := 12) (v := ?_) 15 rfl rfl (by kernel_rfl) (by kernel_rfl) (by kernel_rfl) (fun _ _ _ h => h) (Or.inl ⟨by rfl, ?_⟩) (by assumption) ?_
  rotate_left
  · (intro wS hSw; (try dsimp only at hSw); go_simp; try with_reducible rfl)
  simp only [Act.put, List.setIfInBounds_toArray, List.set_cons_zero, List.set_cons_succ]
  refine take_ (i := 13) (v := ?_) 16 rfl rfl (by kernel_rfl) (by kernel_rfl) (by kernel_rfl) (fun _ _ _ h => h) (Or.inl ⟨by rfl, ?_⟩) (by assumption) ?_
  rotate_left
  · (intro wS hSw; (try dsimp only at hSw); go_simp; try with_reducible rfl)
  simp only [Act.put, List.setIfInBounds_toArray, List.set_cons_zero, List.set_cons_succ]
  refine take_ (i := 14) (v := ?_) 17 rfl rfl (by kernel_rfl) (by kernel_rfl) (by kernel_rfl) (fun _ _ _ h => h) (Or.inl ⟨by rfl, ?_⟩) (by assumption) ?_
  rotate_left
  · (intro wS hSw; (try dsimp only at hSw); go_simp; try with_reducible rfl)
  simp only [Act.put, List.setIfInBounds_toArray, List.set_cons_zero, List.set_cons_succ]
  refine take_ (i := 16) (v := ?_) 19 rfl rfl (by kernel_rfl) (by kernel_rfl) (by kernel_rfl) (fun _ _ _ h => h) (Or.inl ⟨by rfl, ?_⟩) (by assumption) ?_
  rotate_left
  · (intro wS hSw; (try dsimp only at hSw); go_simp; try with_reducible rfl)
  simp only [Act.put, List.setIfInBounds_toArray, List.set_cons_zero, List.set_cons_succ]
  refine take_ (i := 17) (v := ?_) 20 rfl rfl (by kernel_rfl) (by kernel_rfl) (by kernel_rfl) (fun _ _ _ h => h) (Or.inl ⟨by rfl, ?_⟩) (by assumption) ?_
  rotate_left
  · (intro wS hSw; (try dsimp only at hSw); go_simp; try with_reducible rfl)
  simp only [Act.put, List.setIfInBounds_toArray, List.set_cons_zero, List.set_cons_succ]
  refine take_ (i := 18) (v := ?_) 21 rfl rfl (by kernel_rfl) (by kernel_rfl) (by kernel_rfl) (fun _ _ _ h => h) (Or.inl ⟨by rfl, ?_⟩) (by assumption) ?_
  rotate_left
  · (intro wS hSw; (try dsimp only at hSw); go_simp; try with_reducible rfl)
  simp only [Act.put, List.setIfInBounds_toArray, List.set_cons_zero, List.set_cons_succ]
  refine take_ (i := 19) (v := ?_) 22 rfl rfl (by kernel_rfl) (by kernel_rfl) (by kernel_rfl) (fun _ _ _ h => h) (Or.inl ⟨by rfl, ?_⟩) (by assumption) ?_
  rotate_left
  · (intro wS hSw; (try dsimp only at hSw); go_simp; try with_reducible rfl)
  simp only [Act.put, List.setIfInBounds_toArray, List.set_cons_zero, List.set_cons_succ]
  refine take_ (i := 20) (v := ?_) 23 rfl rfl (by kernel_rfl) (by kernel_rfl) (by kernel_rfl) (fun _ _ _ h => h) (Or.inl ⟨by rfl, ?_⟩) (by assumption) ?_
  rotate_left
  · (intro wS hSw; (try dsimp only at hSw); go_simp; try with_reducible rfl)
  simp only [Act.put, List.setIfInBounds_toArray, List.set_cons_zero, List.set_cons_succ]
  refine take_ (i := 21) (v := ?_) 24 rfl rfl (by kernel_rfl) (by kernel_rfl) (by kernel_rfl) (fun _ _ _ h => h) (Or.inl ⟨by rfl, ?_⟩) (by assumption) ?_
  rotate_left
  · (intro wS hSw; (try dsimp only at hSw); go_simp; try with_reducible rfl)
  simp only [Act.put, List.setIfInBounds_toArray, List.set_cons_zero, List.set_cons_succ]
  refine take_ (i := 22) (v := ?_) 25 rfl rfl (by kernel_rfl) (by kernel_rfl) (by kernel_rfl) (fun _ _ _ h => h) (Or.inl ⟨by rfl, ?_⟩) (by assumption) ?_
  rotate_left
  · (intro wS hSw; (try dsimp only at hSw); go_simp; try with_reducible rfl)
  simp only [Act.put, List.setIfInBounds_toArray, List.set_cons_zero, List.set_cons_succ]
  refine take_ (i := 23) (v := ?_) 26 rfl rfl (by kernel_rfl) (by kernel_rfl) (by kernel_rfl) (fun _ _ _ h => h) (Or.inl ⟨by rfl, ?_⟩) (by assumption) ?_
  rotate_left
  · (intro wS hSw; (try dsimp only at hSw); go_simp; try with_reducible rfl)
  simp only [Act.put, List.setIfInBounds_toArray, List.set_cons_zero, List.set_cons_succ]
  refine wpAnyH_ready (rs := [4,10]) (by kernel_rfl) (by simp) ?_
  refine AllReadyH.cons rfl (fun K hK => ?_) (AllReadyH.cons rfl (fun K hK => ?_) AllReadyH.nil)
  · skip
    go_simp
    have C4_ := Lib.hid (C0.out.alloc1)
    refine hK.out _ _ (C4_.out.cells' H.out) (fun hHeld => ?_)
    clear hK K
    refine wpAnyH_ready (rs := [9,10]) (by kernel_rfl) (by simp) ?_
    refine AllReadyH.cons rfl (fun K hK => ?_) (AllReadyH.cons rfl (fun K hK => ?_) AllReadyH.nil)
    · skip
      refine step_append_rows _ rfl (.tmp 7) (.tmp 11) 29 rfl w.heap.size 0 67 i0 (.agg #[.int .i64 0, .string ⟨#[]⟩]) 2 24 Try.underlying29 hi0 hz0 hz1 hz2 rfl (by decide) _ 0 [] (by first | (simp [Act.eval]; done) | simp [Act.eval, Act.put]) C4_.out.row1 vd r.done.length (waitCells r.done) (by first | (simp [Act.eval]; done) | simp [Act.eval, Act.put]) (C4_.out.src H.out).done (waitCells_one _) K31.out K41.out C4_.out.le ?_
      intro v4_9_ w4_9_ hown hgrow hat
      have C4_9_ := Lib.hid (C4_.out.app1 hown hgrow hat)
      obtain ⟨_, _, rfl⟩ := own_form hown
      clear hown hgrow hat
      refine hK.out _ _ (C4_9_.out.cells' H.out) (fun hHeld => ?_)
      clear hK K
      refine wpAnyH_ready (rs := [10]) (by kernel_rfl) (by simp) ?_
      refine AllReadyH.cons rfl (fun K hK => ?_) AllReadyH.nil
      go_simp
      have C4_9_10_ := Lib.hid (C4_9_.out.alloc2)
      refine hK.out _ _ (C4_9_10_.out.cells' H.out) (fun hHeld => ?_)
      clear hK K
      refine wpAnyH_ready (rs := [15]) (by kernel_rfl) (by simp) ?_
      refine AllReadyH.cons rfl (fun K hK => ?_) AllReadyH.nil
      refine step_append_rows _ rfl (.tmp 13) (.tmp 17) 29 rfl w.heap.size 0 67 i0 (.agg #[.int .i64 0, .string ⟨#[]⟩]) 2 24 Try.underlying29 hi0 hz0 hz1 hz2 rfl (by decide) _ 0 [] (by first | (simp [Act.eval]; done) | simp [Act.eval, Act.put]) C4_9_10_.out.row2 vw r.waits.length (waitCells r.waits) (by first | (simp [Act.eval]; done) | simp [Act.eval, Act.put]) (C4_9_10_.out.src H.out).waits (waitCells_one _) K32.out K42.out C4_9_10_.out.le ?_
      intro v4_9_10_15_ w4_9_10_15_ hown hgrow hat
      have C4_9_10_15_ := Lib.hid (C4_9_10_.out.app2 hown hgrow hat)
      obtain ⟨_, _, rfl⟩ := own_form hown
      clear hown hgrow hat
      refine hK.out _ _ (C4_9_10_15_.out.cells' H.out) (fun hHeld => ?_)
      clear hK K
      refine take_ (i := 24) (v := ?_) 27 rfl rfl (by kernel_rfl) (by kernel_rfl) (by kernel_rfl) (fun _ _ _ h => h) (Or.inl ⟨by rfl, ?_⟩) (by assumption) ?_
      rotate_left
      · (intro wS hSw; (try dsimp only at hSw); go_simp; try with_reducible rfl)
      simp only [Act.put, List.setIfInBounds_toArray]
      refine one_ (i := 25) _ (by kernel_rfl) rfl (fun K hK => ?_)
      go_simp
      refine hK.out _ _ (C4_9_10_15_.out.cells H.out _) (fun hHeld => ?_)
      clear hK K
      refine take_ (i := 26) (v := ?_) 2 rfl rfl (by kernel_rfl) (by kernel_rfl) (by kernel_rfl) (fun _ _ _ h => h) (Or.inl ⟨by rfl, ?_⟩) (by assumption) ?_
      rotate_left
      · (intro wS hSw; (try dsimp only at hSw); go_simp; try with_reducible rfl)
      simp only [Act.put, List.setIfInBounds_toArray, List.set_cons_zero, List.set_cons_succ]
      refine wpAnyH_done (by kernel_rfl) ?_ _
      refine NoPanic.normal ?_
      have FIN := Lib.hid (copy_done H.out C4_9_10_15_.out)
      go_wp2_with fail
      go_ret
      exact FIN.out _ (by simp only [Nat.zero_add])
    · skip
      go_simp
      have C4_10_ := Lib.hid (C4_.out.alloc2)
      refine hK.out _ _ (C4_10_.out.cells' H.out) (fun hHeld => ?_)
      clear hK K
      refine wpAnyH_ready (rs := [9]) (by kernel_rfl) (by simp) ?_
      refine AllReadyH.cons rfl (fun K hK => ?_) AllReadyH.nil
      refine step_append_rows _ rfl (.tmp 7) (.tmp 11) 29 rfl w.heap.size 0 67 i0 (.agg #[.int .i64 0, .string ⟨#[]⟩]) 2 24 Try.underlying29 hi0 hz0 hz1 hz2 rfl (by decide) _ 0 [] (by first | (simp [Act.eval]; done) | simp [Act.eval, Act.put]) C4_10_.out.row1 vd r.done.length (waitCells r.done) (by first | (simp [Act.eval]; done) | simp [Act.eval, Act.put]) (C4_10_.out.src H.out).done (waitCells_one _) K31.out K41.out C4_10_.out.le ?_
      intro v4_10_9_ w4_10_9_ hown hgrow hat
      have C4_10_9_ := Lib.hid (C4_10_.out.app1 hown hgrow hat)
      obtain ⟨_, _, rfl⟩ := own_form hown
      clear hown hgrow hat
      refine hK.out _ _ (C4_10_9_.out.cells' H.out) (fun hHeld => ?_)
      clear hK K
      refine wpAnyH_ready (rs := [15]) (by kernel_rfl) (by simp) ?_
      refine AllReadyH.cons rfl (fun K hK => ?_) AllReadyH.nil
      refine step_append_rows _ rfl (.tmp 13) (.tmp 17) 29 rfl w.heap.size 0 67 i0 (.agg #[.int .i64 0, .string ⟨#[]⟩]) 2 24 Try.underlying29 hi0 hz0 hz1 hz2 rfl (by decide) _ 0 [] (by first | (simp [Act.eval]; done) | simp [Act.eval, Act.put]) C4_10_9_.out.row2 vw r.waits.length (waitCells r.waits) (by first | (simp [Act.eval]; done) | simp [Act.eval, Act.put]) (C4_10_9_.out.src H.out).waits (waitCells_one _) K32.out K42.out C4_10_9_.out.le ?_
      intro v4_10_9_15_ w4_10_9_15_ hown hgrow hat
      have C4_10_9_15_ := Lib.hid (C4_10_9_.out.app2 hown hgrow hat)
      obtain ⟨_, _, rfl⟩ := own_form hown
      clear hown hgrow hat
      refine hK.out _ _ (C4_10_9_15_.out.cells' H.out) (fun hHeld => ?_)
      clear hK K
      refine take_ (i := 24) (v := ?_) 27 rfl rfl (by kernel_rfl) (by kernel_rfl) (by kernel_rfl) (fun _ _ _ h => h) (Or.inl ⟨by rfl, ?_⟩) (by assumption) ?_
      rotate_left
      · (intro wS hSw; (try dsimp only at hSw); go_simp; try with_reducible rfl)
      simp only [Act.put, List.setIfInBounds_toArray]
      refine one_ (i := 25) _ (by kernel_rfl) rfl (fun K hK => ?_)
      go_simp
      refine hK.out _ _ (C4_10_9_15_.out.cells H.out _) (fun hHeld => ?_)
      clear hK K
      refine take_ (i := 26) (v := ?_) 2 rfl rfl (by kernel_rfl) (by kernel_rfl) (by kernel_rfl) (fun _ _ _ h => h) (Or.inl ⟨by rfl, ?_⟩) (by assumption) ?_
      rotate_left
      · (intro wS hSw; (try dsimp only at hSw); go_simp; try with_reducible rfl)
      simp only [Act.put, List.setIfInBounds_toArray, List.set_cons_zero, List.set_cons_succ]
      refine wpAnyH_done (by kernel_rfl) ?_ _
      refine NoPanic.normal ?_
      have FIN := Lib.hid (copy_done H.out C4_10_9_15_.out)
      go_wp2_with fail
      go_ret
      exact FIN.out _ (by simp only [Nat.zero_add])
  · skip
    go_simp
    have C10_ := Lib.hid (C0.out.alloc2)
    refine hK.out _ _ (C10_.out.cells' H.out) (fun hHeld => ?_)
    clear hK K
    refine wpAnyH_ready (rs := [4]) (by kernel_rfl) (by simp) ?_
    refine AllReadyH.cons rfl (fun K hK => ?_) AllReadyH.nil
    go_simp
    have C10_4_ := Lib.hid (C10_.out.alloc1)
    refine hK.out _ _ (C10_4_.out.cells' H.out) (fun hHeld => ?_)
    clear hK K
    refine wpAnyH_ready (rs := [9]) (by kernel_rfl) (by simp) ?_
    refine AllReadyH.cons rfl (fun K hK => ?_) AllReadyH.nil
    refine step_append_rows _ rfl (.tmp 7) (.tmp 11) 29 rfl w.heap.size 0 67 i0 (.agg #[.int .i64 0, .string ⟨#[]⟩]) 2 24 Try.underlying29 hi0 hz0 hz1 hz2 rfl (by decide) _ 0 [] (by first | (simp [Act.eval]; done) | simp [Act.eval, Act.put]) C10_4_.out.row1 vd r.done.length (waitCells r.done) (by first | (simp [Act.eval]; done) | simp [Act.eval, Act.put]) (C10_4_.out.src H.out).done (waitCells_one _) K31.out K41.out C10_4_.out.le ?_
    intro v10_4_9_ w10_4_9_ hown hgrow hat
    have C10_4_9_ := Lib.hid (C10_4_.out.app1 hown hgrow hat)
    obtain ⟨_, _, rfl⟩ := own_form hown
    clear hown hgrow hat
    refine hK.out _ _ (C10_4_9_.out.cells' H.out) (fun hHeld => ?_)
    clear hK K
    refine wpAnyH_ready (rs := [15]) (by kernel_rfl) (by simp) ?_
    refine AllReadyH.cons rfl (fun K hK => ?_) AllReadyH.nil
    refine step_append_rows _ rfl (.tmp 13) (.tmp 17) 29 rfl w.heap.size 0 67 i0 (.agg #[.int .i64 0, .string ⟨#[]⟩]) 2 24 Try.underlying29 hi0 hz0 hz1 hz2 rfl (by decide) _ 0 [] (by first | (simp [Act.eval]; done) | simp [Act.eval, Act.put]) C10_4_9_.out.row2 vw r.waits.length (waitCells r.waits) (by first | (simp [Act.eval]; done) | simp [Act.eval, Act.put]) (C10_4_9_.out.src H.out).waits (waitCells_one _) K32.out K42.out C10_4_9_.out.le ?_
    intro v10_4_9_15_ w10_4_9_15_ hown hgrow hat
    have C10_4_9_15_ := Lib.hid (C10_4_9_.out.app2 hown hgrow hat)
    obtain ⟨_, _, rfl⟩ := own_form hown
    clear hown hgrow hat
    refine hK.out _ _ (C10_4_9_15_.out.cells' H.out) (fun hHeld => ?_)
    clear hK K
    refine take_ (i := 24) (v := ?_) 27 rfl rfl (by kernel_rfl) (by kernel_rfl) (by kernel_rfl) (fun _ _ _ h => h) (Or.inl ⟨by rfl, ?_⟩) (by assumption) ?_
    rotate_left
    · (intro wS hSw; (try dsimp only at hSw); go_simp; try with_reducible rfl)
    simp only [Act.put, List.setIfInBounds_toArray]
    refine one_ (i := 25) _ (by kernel_rfl) rfl (fun K hK => ?_)
    go_simp
    refine hK.out _ _ (C10_4_9_15_.out.cells H.out _) (fun hHeld => ?_)
    clear hK K
    refine take_ (i := 26) (v := ?_) 2 rfl rfl (by kernel_rfl) (by kernel_rfl) (by kernel_rfl) (fun _ _ _ h => h) (Or.inl ⟨by rfl, ?_⟩) (by assumption) ?_
    rotate_left
    · (intro wS hSw; (try dsimp only at hSw); go_simp; try with_reducible rfl)
    simp only [Act.put, List.setIfInBounds_toArray, List.set_cons_zero, List.set_cons_succ]
    refine wpAnyH_done (by kernel_rfl) ?_ _
    refine NoPanic.normal ?_
    have FIN := Lib.hid (copy_done H.out C10_4_9_15_.out)
    go_wp2_with fail
    go_ret
    exact FIN.out _ (by simp only [Nat.zero_add])
end Go.Proofs.Ytejpefiblodefaa
