/-
  wire: Next, where a request is whole, and where no byte is left.
-/
import Derived.Test.YtnodhbgkoedalaaGreatDoorQP4
import Derived.Test.YtnodhbgkoedalaaGreatDoorQW14
namespace Go.Proofs.YtnodhbgkoedalaaGreatDoor
open Go.RowKit Reply

set_option maxRecDepth 100000 in
set_option maxHeartbeats 8000000 in
theorem run_b_nil {w0 w : World} {p : Nat} {z : List Value} {Bn : Nat} (h : RdS w0 Bn w p 46 z Wire.s0 none 0) :
    Calls Tryz.prog 17 #[.pointer (some ⟨p, 0, none⟩), .slice none 0 0] w fun e w' => e = .returned (.tuple #[.int .i64 0, .int .i64 (-1)]) ∧ Below w.heap.size w w' := by
  have c0 : w.cell? ⟨p, 0, none⟩ = some (.int .i64 0) := h.cell 0
  have WA := Lib.hid (fun u (q : RdS w0 Bn u p 46 z Wire.s0 none 0) => wants_any q (by decide))
  have CU := Lib.hid (fun u => cut_b_nil u)
  have RR := Lib.hid h
  clear h
  have WS : Hid (szI (Wire.wants Wire.s0) = -1) := rfl
  rw [WS.out] at WA
  go_enter Tryz.func17, Tryz.ntmps17
  go_wp2_with fail
  go_loopw [6] (fun v wr => v = .int .i64 0 ∧ wr = w) (fun _ _ => 0)
  case atStart => exact ⟨rfl, rfl⟩
  case round =>
    obtain ⟨rfl, rfl⟩ := hrel
    go_upto_region 3 with fail
    refine wp_region_noPanic ?_
    refine wp_region_held_drew (S := fun _ => True) (by kernel_rfl) trivial (fun hHeld => ?_)
    refine take_ (i := 0) (v := ?_) 16 rfl rfl (by kernel_rfl) (by kernel_rfl) (by kernel_rfl) (fun _ _ _ h => h) (Or.inl ⟨by rfl, ?_⟩) (by assumption) ?_
    rotate_left
    · (intro wS hSw; (try dsimp only at hSw); go_simp; try with_reducible rfl)
    simp only [Act.put, List.setIfInBounds_toArray, List.set_cons_zero, List.set_cons_succ]
    refine take_ (i := 1) (v := ?_) 17 rfl rfl (by kernel_rfl) (by kernel_rfl) (by kernel_rfl) (fun _ _ _ h => h) (Or.inl ⟨by rfl, ?_⟩) (by assumption) ?_
    rotate_left
    · (intro wS hSw; (try dsimp only at hSw); go_simp; try with_reducible rfl)
    simp only [Act.put, List.setIfInBounds_toArray, List.set_cons_zero, List.set_cons_succ]
    refine take_ (i := 2) (v := ?_) 18 rfl rfl (by kernel_rfl) (by kernel_rfl) (by kernel_rfl) (fun _ _ _ h => h) (Or.inl ⟨by rfl, ?_⟩) (by assumption) ?_
    rotate_left
    · (intro wS hSw; (try dsimp only at hSw); go_simp; try with_reducible rfl)
    simp only [Act.put, List.setIfInBounds_toArray, List.set_cons_zero, List.set_cons_succ]
    refine take_ (i := 3) (v := ?_) 19 rfl rfl (by kernel_rfl) (by kernel_rfl) (by kernel_rfl) (fun _ _ _ h => h) (Or.inl ⟨by rfl, ?_⟩) (by assumption) ?_
    rotate_left
    · (intro wS hSw; (try dsimp only at hSw); go_simp; try with_reducible rfl)
    simp only [Act.put, List.setIfInBounds_toArray, List.set_cons_zero, List.set_cons_succ]
    refine one_ (i := 4) _ (by kernel_rfl) rfl (fun K hK => ?_)
    go_simp
    refine (WA.out _ (RR.out.under ((Below.refl _ _).drew))).mono ?_
    rintro e w5 ⟨rfl, rfl⟩
    dsimp only
    refine hK.out _ _ trivial (fun hHeld => ?_)
    clear hK K
    refine one_ (i := 5) _ (by kernel_rfl) rfl (fun K hK => ?_)
    go_simp
    refine (CU.out _).mono ?_
    rintro e w6 ⟨rfl, rfl⟩
    dsimp only
    refine hK.out _ _ trivial (fun hHeld => ?_)
    clear hK K
    refine take_ (i := 6) (v := ?_) 15 rfl rfl (by kernel_rfl) (by kernel_rfl) (by kernel_rfl) (fun _ _ _ h => h) (Or.inl ⟨by rfl, ?_⟩) (by assumption) ?_
    rotate_left
    · (intro wS hSw; (try dsimp only at hSw); go_simp; try with_reducible rfl)
    simp only [Act.put, List.setIfInBounds_toArray]
    refine take_ (i := 7) (v := ?_) 22 rfl rfl (by kernel_rfl) (by kernel_rfl) (by kernel_rfl) (fun _ _ _ h => h) (Or.inl ⟨by rfl, ?_⟩) (by assumption) ?_
    rotate_left
    · (intro wS hSw; (try dsimp only at hSw); go_simp; try with_reducible rfl)
    simp only [Act.put, List.setIfInBounds_toArray]
    refine take_ (i := 8) (v := ?_) 23 rfl rfl (by kernel_rfl) (by kernel_rfl) (by kernel_rfl) (fun _ _ _ h => h) (Or.inl ⟨by rfl, ?_⟩) (by assumption) ?_
    rotate_left
    · (intro wS hSw; (try dsimp only at hSw); go_simp; try with_reducible rfl)
    simp only [Act.put, List.setIfInBounds_toArray]
    refine take_ (i := 9) (v := ?_) 7 rfl rfl (by kernel_rfl) (by kernel_rfl) (by kernel_rfl) (fun _ _ _ h => h) (Or.inl ⟨by rfl, ?_⟩) (by assumption) ?_
    rotate_left
    · (intro wS hSw; (try dsimp only at hSw); go_simp; try with_reducible rfl)
    simp only [Act.put, List.setIfInBounds_toArray]
    refine take_ (i := 10) (v := ?_) 8 rfl rfl (by kernel_rfl) (by kernel_rfl) (by kernel_rfl) (fun _ _ _ h => h) (Or.inl ⟨by rfl, ?_⟩) (by assumption) ?_
    rotate_left
    · (intro wS hSw; (try dsimp only at hSw); go_simp; try with_reducible rfl)
    simp only [Act.put, List.setIfInBounds_toArray]
    refine wpAnyH_done (by kernel_rfl) ?_ _
    refine NoPanic.normal ?_
    go_wp2_with fail
    go_ret2
    exact ⟨rfl, (Below.refl _ _).drew⟩
set_option maxRecDepth 100000 in
set_option maxHeartbeats 4000000 in
theorem drop_nil {w0 w : World} {Bn p : Nat} {x : Value} {s : Wire.St} {A : Option Addr} {c : Nat} (h : RdS w0 Bn w p 46 [.slice none 0 0, x] s A c) :
    Calls Tryz.prog 18 #[.pointer (some ⟨p, 0, none⟩), .int .i64 0] w fun e w' => e = .returned (.tuple #[]) ∧ Fr Bn p w w' := by
  have c0 : w.cell? ⟨p, 9, none⟩ = some (.slice none 0 0) := h.cell 9
  have y0 := h.frozen 9
  have F2 : Hid (Fr Bn p w ((w.setCell ⟨p, 9, none⟩ (.slice none 0 0)).setCell ⟨p, 9, none⟩ (.slice none 0 0))) := ((Fr.refl _ _ _).set_ 9 _).set_ 9 _
  clear h
  go_enter Tryz.func18, Tryz.ntmps18
  go_wp2
  go_end0
  exact ⟨rfl, F2.out⟩
set_option maxRecDepth 100000 in
set_option maxHeartbeats 8000000 in
/-- No byte is left: no request. -/
theorem next_more {w0 w : World} {p : Nat} (E : Env w0) (hp : w0.heap.size ≤ p) (bel : Below w0.heap.size w0 w) (h : CnAt w p (.slice none 0 0) false) :
    Calls Tryz.prog 14 #[.pointer (some ⟨p, 0, none⟩)] w fun e w' => e = .returned (.tuple #[.agg #[.string ⟨#[]⟩, .string ⟨#[]⟩, .slice none 0 0, .string ⟨#[]⟩, .bool false], .int .i64 0, .bool false]) ∧ Fr w.heap.size p w w' := by
  obtain ⟨W1, hW1⟩ : ∃ x, x = w.alloc (.cells #[.string ⟨#[]⟩, .string ⟨#[]⟩, .slice none 0 0, .string ⟨#[]⟩, .bool false] 26) := ⟨_, rfl⟩
  have HW1 := Lib.hid hW1
  have A1 : Hid (Below w.heap.size w W1) := by show Below _ _ _; rw [hW1]; exact (Below.refl _ _).alloc (Nat.le_refl _) _
  have R1 : Hid (Held W1 w.heap.size 26 #[.string ⟨#[]⟩, .string ⟨#[]⟩, .slice none 0 0, .string ⟨#[]⟩, .bool false]) := by show Held _ _ _ _; rw [hW1]; exact Held.new _ _ _ rfl
  have C1 : Hid (CnAt W1 p (.slice none 0 0) false) := h.below A1.out h.lt
  have RD := Lib.hid (RdS.conn E hp (bel.trans (A1.out.mono bel.size)) C1.out)
  have CL := Lib.hid (closed_any W1 p _ _ C1.out)
  have PW : Hid (p < w.heap.size) := h.lt
  clear hW1 h E bel hp
  go_enter Tryz.func14, Tryz.ntmps14
  go_wp2_with fail
  rw [← HW1.out]
  refine CL.out.mono ?_
  rintro e w' ⟨rfl, rfl⟩
  clear CL
  have c9 : W1.cell? ⟨p, 9, none⟩ = some (.slice none 0 0) := C1.out.cell 9
  go_upto_region 3 with fail
  refine wp_region_noPanic ?_
  refine wp_region_held_drew (S := fun wx => wx.cell? ⟨p, 9, none⟩ = some (.slice none 0 0)) (by kernel_rfl) c9 (fun hHeld => ?_)
  refine take_ (i := 0) (v := ?_) 12 rfl rfl (by kernel_rfl) (by kernel_rfl) (by kernel_rfl) (fun _ _ _ h => h) (Or.inl ⟨by rfl, ?_⟩) (by assumption) ?_
  rotate_left
  · (intro wS hSw; (try dsimp only at hSw); go_simp; try with_reducible rfl)
  simp only [Act.put, List.setIfInBounds_toArray, List.set_cons_zero, List.set_cons_succ]
  refine take_ (i := 1) (v := ?_) 13 rfl rfl (by kernel_rfl) (by kernel_rfl) (by kernel_rfl) (fun _ _ _ h => h) (Or.inl ⟨by rfl, ?_⟩) (by assumption) ?_
  rotate_left
  · (intro wS hSw; (try dsimp only at hSw); go_simp; try with_reducible rfl)
  simp only [Act.put, List.setIfInBounds_toArray, List.set_cons_zero, List.set_cons_succ]
  refine take_ (i := 2) (v := ?_) 14 rfl rfl (by kernel_rfl) (by kernel_rfl) (by kernel_rfl) (fun _ _ _ h => h) (Or.inl ⟨by rfl, ?_⟩) (by assumption) ?_
  rotate_left
  · (intro wS hSw; (try dsimp only at hSw); go_simp; try with_reducible rfl)
  simp only [Act.put, List.setIfInBounds_toArray, List.set_cons_zero, List.set_cons_succ]
  refine take_ (i := 3) (v := ?_) 15 rfl rfl (by kernel_rfl) (by kernel_rfl) (by kernel_rfl) (fun _ _ _ h => h) (Or.inl ⟨by rfl, ?_⟩) (by assumption) ?_
  rotate_left
  · (intro wS hSw; (try dsimp only at hSw); go_simp; try with_reducible rfl)
  simp only [Act.put, List.setIfInBounds_toArray, List.set_cons_zero, List.set_cons_succ]
  refine take_ (i := 4) (v := ?_) 16 rfl rfl (by kernel_rfl) (by kernel_rfl) (by kernel_rfl) (fun _ _ _ h => h) (Or.inl ⟨by rfl, ?_⟩) (by assumption) ?_
  rotate_left
  · (intro wS hSw; (try dsimp only at hSw); go_simp; try with_reducible rfl)
  simp only [Act.put, List.setIfInBounds_toArray, List.set_cons_zero, List.set_cons_succ]
  refine take_ (i := 5) (v := ?_) 17 rfl rfl (by kernel_rfl) (by kernel_rfl) (by kernel_rfl) (fun _ _ _ h => h) (Or.inl ⟨by rfl, ?_⟩) (by assumption) ?_
  rotate_left
  · (intro wS hSw; (try dsimp only at hSw); go_simp; try with_reducible rfl)
  simp only [Act.put, List.setIfInBounds_toArray, List.set_cons_zero, List.set_cons_succ]
  refine take_ (i := 6) (v := ?_) 18 rfl rfl (by kernel_rfl) (by kernel_rfl) (by kernel_rfl) (fun _ _ _ h => h) (Or.inl ⟨by rfl, ?_⟩) (by assumption) ?_
  rotate_left
  · (intro wS hSw; (try dsimp only at hSw); go_simp; try with_reducible rfl)
  simp only [Act.put, List.setIfInBounds_toArray, List.set_cons_zero, List.set_cons_succ]
  refine one_ (i := 7) _ (by kernel_rfl) rfl (fun K hK => ?_)
  go_simp
  refine (run_b_nil (RD.out.under ((Below.refl _ _).drew))).mono ?_
  rintro e w5 ⟨rfl, hb5⟩
  dsimp only
  have K5 : Below W1.heap.size W1 w5 := ((Below.refl _ _).drew).trans hb5
  have RD5 := Lib.hid (RD.out.under K5)
  have F5 := Lib.hid (Fr.of_below (p := p) RD.out.sz K5)
  have c95 : w5.cell? ⟨p, 9, none⟩ = some (.slice none 0 0) := RD5.out.cell 9
  clear hb5 K5 RD
  refine hK.out _ _ c95 (fun hHeld => ?_)
  clear hK K
  refine take_ (i := 8) (v := ?_) 11 rfl rfl (by kernel_rfl) (by kernel_rfl) (by kernel_rfl) (fun _ _ _ h => h) (Or.inl ⟨by rfl, ?_⟩) (by assumption) ?_
  rotate_left
  · (intro wS hSw; (try dsimp only at hSw); go_simp; try with_reducible rfl)
  simp only [Act.put, List.setIfInBounds_toArray]
  refine take_ (i := 9) (v := ?_) 20 rfl rfl (by kernel_rfl) (by kernel_rfl) (by kernel_rfl) (fun _ _ _ h => h) (Or.inl ⟨by rfl, ?_⟩) (by assumption) ?_
  rotate_left
  · (intro wS hSw; (try dsimp only at hSw); go_simp; try with_reducible rfl)
  simp only [Act.put, List.setIfInBounds_toArray]
  refine take_ (i := 10) (v := ?_) 21 rfl rfl (by kernel_rfl) (by kernel_rfl) (by kernel_rfl) (fun _ _ _ h => h) (Or.inl ⟨by rfl, ?_⟩) (by assumption) ?_
  rotate_left
  · (intro wS hSw; (try dsimp only at hSw); go_simp; try with_reducible rfl)
  simp only [Act.put, List.setIfInBounds_toArray]
  refine take_ (i := 11) (v := ?_) 5 rfl rfl (by kernel_rfl) (by kernel_rfl) (by kernel_rfl) (fun _ _ _ h => h) (Or.inl ⟨by rfl, ?_⟩) (by assumption) ?_
  rotate_left
  · (intro wS hSw; (try dsimp only at hSw); go_simp; try with_reducible rfl)
  simp only [Act.put, List.setIfInBounds_toArray]
  refine take_ (i := 12) (v := ?_) 6 rfl rfl (by kernel_rfl) (by kernel_rfl) (by kernel_rfl) (fun _ _ _ h => h) (Or.inl ⟨by rfl, ?_⟩) (by assumption) ?_
  rotate_left
  · (intro wS hSw; (try dsimp only at hSw); go_simp; try with_reducible rfl)
  simp only [Act.put, List.setIfInBounds_toArray]
  refine wpAnyH_done (by kernel_rfl) ?_ _
  refine NoPanic.normal ?_
  clear c9 c95
  go_wp2_with fail
  refine (drop_nil RD5.out).mono ?_
  rintro e w6 ⟨rfl, f6⟩
  have F6 := Lib.hid (F5.out.trans f6)
  have R6 : Hid (Held w6 w.heap.size 26 #[.string ⟨#[]⟩, .string ⟨#[]⟩, .slice none 0 0, .string ⟨#[]⟩, .bool false]) := (F6.out.block _ R1.out.lt (by have := PW.out; omega)).trans R1.out
  clear f6 F5 RD5
  have y0 := R6.out.frozen 0
  have y1 := R6.out.frozen 1
  have y2 := R6.out.frozen 2
  have y3 := R6.out.frozen 3
  have y4 := R6.out.frozen 4
  have x0 := R6.out.cell 0
  have x1 := R6.out.cell 1
  have x2 := R6.out.cell 2
  have x3 := R6.out.cell 3
  have x4 := R6.out.cell 4
  have FIN : Hid (∀ u : World, u = put5 w6 w.heap.size (.string ⟨#[]⟩) (.string ⟨#[]⟩) (.slice none 0 0) (.string ⟨#[]⟩) (.bool false) → Held u w.heap.size 26 #[.string ⟨#[]⟩, .string ⟨#[]⟩, .slice none 0 0, .string ⟨#[]⟩, .bool false] ∧ Fr w.heap.size p w u) := fun u e => by
    subst e
    have o := put5_only w6 w.heap.size (.string ⟨#[]⟩) (.string ⟨#[]⟩) (.slice none 0 0) (.string ⟨#[]⟩) (.bool false)
    have f1 : Fr w.heap.size p w W1 := Fr.of_below (Nat.le_refl _) A1.out
    have f2 : Fr w.heap.size p W1 w6 := ⟨F6.out.os, F6.out.tape, F6.out.output, F6.out.size, fun k hk hn => F6.out.block k (Nat.lt_of_lt_of_le hk A1.out.size) hn⟩
    have s6 : w.heap.size ≤ w6.heap.size := (f1.trans f2).size
    exact ⟨put5_held R6.out _ _ _ _ _, (f1.trans f2).trans ⟨o.os, o.tape, o.output, o.size, fun k hk hn => o.block k (by omega) (by simp; omega)⟩⟩
  go_wp2_with fail
  obtain ⟨fh, ff⟩ := FIN.out _ rfl
  exact bodyPost_ret (resC3 _ _ 2 3 4 26 _ _ _ _ Tryz.results14 rfl rfl rfl (load_req fh rfl)) rfl ⟨rfl, ff⟩
end Go.Proofs.YtnodhbgkoedalaaGreatDoor
