/-
  blob: Clone.
-/
import Derived.Test.YtlofpbmceipkkaaM28
namespace Go.Proofs.Ytlofpbmceipkkaa
open Go.RowKit Wal Blob

set_option maxRecDepth 100000 in
set_option maxHeartbeats 3200000 in
theorem clone1_any (B : Nat) (w : World) (hBw : B ≤ w.heap.size) (p n : Nat) (f : Nat → Option KB) (hm : MemAt B w p n f) (h : Nat) (parts l : List Nat) (t : There n f h parts l) (A : Option Addr) (c : Nat) (hi : IntsAt w A parts) (b1 q : Nat) (g1 : Held w b1 56 #[sto p]) (y : Value) (g2 : Held w q 3 #[y]) :
    Calls Try.prog 28 #[blobV (sto p) h l.length A parts.length c, .pointer (some ⟨b1, 0, none⟩), .pointer (some ⟨q, 0, none⟩)] w fun e w3 =>
      (e = .returned (.tuple #[]) ∧ ∃ (h' : Nat) (parts' : List Nat) (f' : Nat → Option KB) (w2 : World), MemAt B w2 p n f' ∧ Kp B w w2 ∧ Laid n f f' h' parts' l ∧ w3 = w2.setCell ⟨q, 0, none⟩ (.int .i64 (h' : Int))) ∨
      (e = panicsWith 12 ∧ MemAt B w3 p n f ∧ Kp B w w3 ∧ n < cnt n f + needL l.length) := by
  obtain ⟨w1, hw1⟩ : ∃ w1, w1 = w.alloc (.cells (blobCs (sto p) h l.length A parts.length c) 61) := ⟨_, rfl⟩
  obtain ⟨b3, hb3⟩ : ∃ b3, b3 = w.heap.size := ⟨_, rfl⟩
  have B1 : Hid (Below w.heap.size w w1) := by rw [hw1]; exact (Below.refl _ _).alloc (Nat.le_refl _) _
  have H3 : Hid (Held w1 b3 61 (blobCs (sto p) h l.length A parts.length c)) := by rw [hw1]; exact Held.new _ _ _ hb3
  have M1 := Lib.hid (hm.under B1.out)
  have I1 := Lib.hid (hi.below B1.out)
  have G1 := Lib.hid (g1.below B1.out g1.lt)
  have G2 := Lib.hid (g2.below B1.out g2.lt)
  have L1 := t.most
  have LB := Lib.hid t.bytes
  have TX := btext_any B w1.drew p n f (M1.out.under (Below.refl _ _).drew) h parts l t A _ c rfl (I1.out.below (Below.refl _ _).drew) 0 l.length (by omega) (by omega)
  rw [List.drop_zero, Nat.sub_zero, List.take_of_length_le (Nat.le_refl _)] at TX
  have TXH := Lib.hid TX
  have QN : Hid (q < w1.heap.size ∧ b1 ≠ q ∧ b3 ≠ q ∧ B ≤ w1.heap.size) := ⟨G2.out.lt, Held.ne_ g1 g2 (by decide), Held.ne_ H3.out G2.out (by decide), Nat.le_trans hBw B1.out.size⟩
  obtain ⟨d0, d1, d2, d3, _⟩ := H3.out.blob
  have c1 : w1.cell? ⟨b1, 0, none⟩ = some (sto p) := G1.out.cell 0
  have HW := Lib.hid hw1
  have HB3 := Lib.hid hb3
  obtain ⟨sv, hsv⟩ : ∃ sv, sv = sto p := ⟨_, rfl⟩
  have HS := Lib.hid hsv
  clear hm t hi g1 g2 hw1 hb3 TX
  unfold blobV blobCs at *
  rw [← hsv] at d0 c1 TXH HW H3 G1 ⊢
  unfold sto at hsv
  subst hsv
  go_enter Try.func28, Try.ntmps28
  go_upto_region 1 with fail
  rw [← HW.out, ← HB3.out]
  clear HW
  refine wp_region_held_drew (S := fun w' => w'.cell? ⟨b1, 0, none⟩ = some (.iface 24 (.pointer (some ⟨p, 0, none⟩))) ∧ w'.cell? ⟨b3, 0, none⟩ = some (.iface 24 (.pointer (some ⟨p, 0, none⟩))) ∧ w'.cell? ⟨b3, 1, none⟩ = some (.int .i64 (h : Int)) ∧ w'.cell? ⟨b3, 2, none⟩ = some (.int .i64 (l.length : Int)) ∧ w'.cell? ⟨b3, 3, none⟩ = some (.slice A parts.length c)) (by kernel_rfl) ⟨c1, d0, d1, d2, d3⟩ (fun hHeld => ?_)
  refine take_ (i := 0) (v := ?_) 4 rfl rfl (by kernel_rfl) (by kernel_rfl) (by kernel_rfl) (fun _ _ _ h => h) (Or.inl ⟨by rfl, ?_⟩) (by assumption) ?_
  rotate_left
  · (intro wS hSw; (try dsimp only at hSw); go_simp; try with_reducible rfl)
  simp only [Act.put, List.setIfInBounds_toArray, List.set_cons_zero, List.set_cons_succ]
  refine take_ (i := 1) (v := ?_) 5 rfl rfl (by kernel_rfl) (by kernel_rfl) (by kernel_rfl) (fun _ _ _ h => h) (Or.inl ⟨by rfl, ?_⟩) (by assumption) ?_
  rotate_left
  · (intro wS hSw; (try dsimp only at hSw); go_simp; try with_reducible rfl)
  simp only [Act.put, List.setIfInBounds_toArray, List.set_cons_zero, List.set_cons_succ]
  refine take_ (i := 2) (v := ?_) 6 rfl rfl (by kernel_rfl) (by kernel_rfl) (by kernel_rfl) (fun _ _ _ h => h) (Or.inl ⟨by rfl, ?_⟩) (by assumption) ?_
  rotate_left
  · (intro wS hSw; (try dsimp only at hSw); go_simp; try with_reducible rfl)
  simp only [Act.put, List.setIfInBounds_toArray, List.set_cons_zero, List.set_cons_succ]
  refine take_ (i := 3) (v := ?_) 7 rfl rfl (by kernel_rfl) (by kernel_rfl) (by kernel_rfl) (fun _ _ _ h => h) (Or.inl ⟨by rfl, ?_⟩) (by assumption) ?_
  rotate_left
  · (intro wS hSw; (try dsimp only at hSw); go_simp; try with_reducible rfl)
  simp only [Act.put, List.setIfInBounds_toArray, List.set_cons_zero, List.set_cons_succ]
  refine one_ (i := 4) _ (by kernel_rfl) rfl (fun K hK => ?_)
  go_simp
  refine TXH.out.mono ?_
  rintro e w2 ⟨rfl, hb2⟩
  have B2 : Hid (Below w1.heap.size w1 w2) := (Below.refl _ _).drew.trans hb2
  have X1 := Lib.hid (G1.out.below B2.out G1.out.lt)
  have X3 := Lib.hid (H3.out.below B2.out H3.out.lt)
  have X2 := Lib.hid (G2.out.below B2.out G2.out.lt)
  have LY := lay_any B w2 (Nat.le_trans QN.out.2.2.2 B2.out.size) p n f (M1.out.under B2.out) l L1 LB.out
  rw [← HS.out] at LY
  have LYH := Lib.hid LY
  unfold strV at LYH
  clear hb2 TXH LY hHeld d0 d1 d2 d3 c1
  unfold strV
  go_wp2_with fail
  refine hK.out _ _ ⟨X1.out.cell 0, X3.out.cell 0, X3.out.cell 1, X3.out.cell 2, X3.out.cell 3⟩ (fun hHeld => ?_)
  clear hK K
  refine one_ (i := 5) _ (by kernel_rfl) rfl (fun K hK => ?_)
  go_simp
  refine LYH.out.mono ?_
  rintro e w4 (⟨h', parts', f', rfl, m, k, la⟩ | ⟨rfl, m, k, hs⟩)
  · have R := Lib.hid (And.intro m (And.intro k la))
    have Y1 := Lib.hid (k.held X1.out (by decide) (by decide))
    have Y3 := Lib.hid (k.held X3.out (by decide) (by decide))
    have Y2 := Lib.hid (k.held X2.out (by decide) (by decide))
    have cq : w4.cell? ⟨q, 0, none⟩ = some y := Y2.out.cell 0
    have zq := Y2.out.frozen 0
    have Z1 := Lib.hid (Y1.out.far (p := ⟨q, 0, none⟩) QN.out.2.1 (.int .i64 (h' : Int)))
    have Z3 := Lib.hid (Y3.out.far (p := ⟨q, 0, none⟩) QN.out.2.2.1 (.int .i64 (h' : Int)))
    clear m k la LYH hHeld
    go_wp2_with fail
    refine hK.out _ _ ⟨Y1.out.cell 0, Y3.out.cell 0, Y3.out.cell 1, Y3.out.cell 2, Y3.out.cell 3⟩ (fun hHeld => ?_)
    clear hK K
    refine one_ (i := 6) _ (by kernel_rfl) rfl (fun K hK => ?_)
    go_simp
    refine hK.out _ _ ⟨Z1.out.cell 0, Z3.out.cell 0, Z3.out.cell 1, Z3.out.cell 2, Z3.out.cell 3⟩ (fun hHeld => ?_)
    clear hK K
    refine wpAnyH_done (by kernel_rfl) ?_ _
    go_wp2_with fail
    go_end0
    exact .inl ⟨rfl, h', parts', f', w4, R.out.1, ((Kp.under B1.out).trans (Kp.under B2.out)).trans R.out.2.1, R.out.2.2, rfl⟩
  · have R := Lib.hid (And.intro m (And.intro k hs))
    clear m k hs LYH hHeld
    unfold panicsWith
    go_wp2_with fail
    exact ⟨rfl, .inr ⟨rfl, R.out.1, ((Kp.under B1.out).trans (Kp.under B2.out)).trans R.out.2.1, R.out.2.2⟩⟩
set_option maxRecDepth 100000 in
set_option maxHeartbeats 1600000 in
/-- Clone. -/
theorem bclone_all (B : Nat) (w : World) (hBw : B ≤ w.heap.size) (p n : Nat) (f : Nat → Option KB) (hm : MemAt B w p n f) (h : Nat) (parts l : List Nat) (t : There n f h parts l) :
    Calls Try.prog 15 #[sto p, .int .i64 (h : Int)] w (WroteE B w p n f l) := by
  obtain ⟨w1, hw1⟩ : ∃ w1, w1 = (w.alloc (.cells #[sto p] 56)).alloc (.cells #[.int .i64 0] 3) := ⟨_, rfl⟩
  have B1 : Hid (Below w.heap.size w w1) := by rw [hw1]; exact ((Below.refl _ _).alloc (Nat.le_refl _) _).alloc (by simp) _
  have G0 : Hid (Held w1 w.heap.size 56 #[sto p]) := by rw [hw1]; exact (Held.new w _ _ rfl).alloc _
  have GQ : Hid (Held w1 (w.heap.size + 1) 3 #[.int .i64 0]) := by rw [hw1]; exact Held.new _ _ _ (by simp)
  have c0 : w1.cell? ⟨w.heap.size, 0, none⟩ = some (sto p) := G0.out.cell 0
  have LT : Hid (w.heap.size + 1 < w1.heap.size) := GQ.out.lt
  have M1 := hm.under B1.out
  have VS := Lib.hid (visit_any B w1 p n f M1 h parts l t 28 #[.pointer (some ⟨w.heap.size, 0, none⟩), .pointer (some ⟨w.heap.size + 1, 0, none⟩)] (some (w.heap.size + 1))
    (fun v w2 => ∃ (h' : Nat) (parts' : List Nat) (f' : Nat → Option KB), v = .int .i64 (h' : Int) ∧ MemAt B w2 p n f' ∧ Laid n f f' h' parts' l ∧ Held w2 (w.heap.size + 1) 3 #[.int .i64 0])
    (fun err w2 => err = 12 ∧ MemAt B w2 p n f ∧ n < cnt n f + needL l.length ∧ Held w2 (w.heap.size + 1) 3 #[.int .i64 0]) (fun a u => rfl)
    (fun w2 A m c hmm hi hb => by
      subst hmm
      refine (clone1_any B w2 (by have := hb.size; have := B1.out.size; omega) p n f (M1.under hb) h parts l t A c hi w.heap.size (w.heap.size + 1) (G0.out.below hb G0.out.lt) _ (GQ.out.below hb GQ.out.lt)).mono (fun e w3 hh => ?_)
      have hq2 := GQ.out.below hb GQ.out.lt
      rcases hh with ⟨rfl, h', parts', f', w4, m, k, la, rfl⟩ | ⟨rfl, m, k, hs⟩
      · exact .inl ⟨rfl, _, w4, ⟨h', parts', f', rfl, m, la, k.held hq2 (by decide) (by decide)⟩, k, rfl⟩
      · exact .inr ⟨12, rfl, ⟨rfl, m, hs, k.held hq2 (by decide) (by decide)⟩, k⟩) (fun x hx => by injection hx with hx; subst hx; exact GQ.out.lt))
  have HW := Lib.hid hw1
  obtain ⟨sv, hsv⟩ : ∃ sv, sv = sto p := ⟨_, rfl⟩
  rw [← hsv] at c0 HW VS ⊢
  unfold sto at hsv
  subst hsv
  clear hw1 hm t M1
  go_enter Try.func15, Try.ntmps15
  go_upto_region 1 with fail
  rw [← HW.out]
  clear HW
  go_wp2_with fail
  refine VS.out.mono ?_
  rintro e w' ⟨x, hx, ⟨rfl, v, w2, ⟨h', parts', f', rfl, m, la, hq⟩, k, hxx, rfl⟩ | ⟨err, w2, o, rfl, ⟨rfl, m, hs, hq⟩, k, hxx, rfl⟩⟩
  · have C := Lib.hid (closed (v := .int .i64 (h' : Int)) (Kp.under B1.out) k hq hxx (by omega) (by have := LT.out; omega) (T := 3) ⟨by decide, by decide, by decide⟩ (by have := LT.out; omega) m)
    have LA := Lib.hid la
    unfold setO
    simp only
    generalize (w2.setCell ⟨w.heap.size + 1, 0, none⟩ (.int .i64 (h' : Int))).setCell ⟨x, 0, none⟩ (.int .i64 0) = u at *
    have cu : u.cell? ⟨w.heap.size + 1, 0, none⟩ = some (.int .i64 (h' : Int)) := C.out.1.cell 0
    have zu := C.out.1.frozen 0
    have C2 := Lib.hid (C.out.1.set_ 0 (.int .i64 (h' : Int)))
    clear m k la hx hxx hq VS c0
    go_wp2_with fail
    refine bodyPost_ret (res_cell_tmp _ _ 5 4 3 (.int .i64 0) (.int .i64 (h' : Int)) _ Try.results15 rfl rfl (load_one (Try.isAgg3 _) (C2.out.cell 0))) rfl (.inl ⟨h', parts', f', rfl, C.out.2.1.set_ C.out.1 (by decide) (by decide) (by decide) 0 _, C.out.2.2.new_ (by omega) 0 _, LA.out⟩)
  · have BO : Below w2.heap.size w2 (w2.alloc o) := (Below.refl _ _).alloc (Nat.le_refl _) _
    have hx' := hxx.below BO hxx.lt
    have UM := Lib.hid (KeptErr hx' (m.under BO) (.int .i64 12))
    have UK := Lib.hid ((((Kp.under B1.out).trans k).alloc o).new_ (by have := LT.out; omega : w.heap.size ≤ x) 0 (.int .i64 12))
    have UQ := Lib.hid ((hq.below BO hq.lt).far (p := ⟨x, 0, none⟩) (by have := LT.out; show w.heap.size + 1 ≠ x; omega) (.int .i64 12))
    have HS2 := Lib.hid hs
    generalize (w2.alloc o).setCell ⟨x, 0, none⟩ (.int .i64 12) = u at *
    have cu : u.cell? ⟨w.heap.size + 1, 0, none⟩ = some (.int .i64 0) := UQ.out.cell 0
    have zu := UQ.out.frozen 0
    have C2 := Lib.hid (UQ.out.set_ 0 (.int .i64 0))
    clear m k hs hx hxx hx' hq BO VS c0
    go_wp2_with fail
    refine bodyPost_ret (res_cell_tmp _ _ 5 4 3 (.int .i64 12) (.int .i64 0) _ Try.results15 rfl rfl (load_one (Try.isAgg3 _) (C2.out.cell 0))) rfl (.inr ⟨rfl, UM.out.set_ UQ.out (by decide) (by decide) (by decide) 0 _, UK.out.new_ (by omega) 0 _, HS2.out⟩)
end Go.Proofs.Ytlofpbmceipkkaa
