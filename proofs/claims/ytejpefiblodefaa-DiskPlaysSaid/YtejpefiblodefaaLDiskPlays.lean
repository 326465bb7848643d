/-
  P2.1 to P2.4: whatever is done to a disk, in whatever order, each answer is the one that the chapter says: the law answers true for every input, and its arguments read behind the call as before. No condition beside the row's own.
-/
import Derived.Test.YtejpefiblodefaaStep
import Derived.Test.YtejpefiblodefaaReg
namespace Go.Proofs.Ytejpefiblodefaa
open Go.RowKit
theorem World.drewN_below (w : World) (k : Nat) : Below w.heap.size w (w.drewN k) := ⟨rfl, rfl, rfl, Nat.le_refl _, fun _ _ => rfl⟩
end Go.Proofs.Ytejpefiblodefaa
namespace Go.Proofs.Ytejpefiblodefaa.diskPlays
open Go.ChangeShapes Go.WideShapes Go.ChangeAt Go.RowKit

theorem own : ownKnob Try.prog.godebug = none := by kernel_rfl
theorem laidOut : laidOutB Try.prog = true := by kernel_rfl
theorem bytesOp : Try.prog.bytesOf 35 = 56 := by kernel_rfl

/-- Both disks, all of the call's own, after k steps. -/
def Rel (w wr : World) (d rd k : Nat) : Prop := ∃ F m G r, Both wr d F m rd G r k ∧ Below w.heap.size w wr ∧ ∀ x ∈ F ++ G, w.heap.size ≤ x

theorem Rel.next {w wr w2 : World} {d rd k : Nat} {F G : List Nat} (hb : Below w.heap.size w wr) (hn : ∀ x ∈ F ++ G, w.heap.size ≤ x) (h : BTurned wr d F rd G w2 (k + 1)) : Rel w w2 d rd (k + 1) := by
  obtain ⟨F', m', G', r', h1, h2, h3⟩ := h
  refine ⟨F', m', G', r', h1, h2.from_ hb hn, fun x hx => ?_⟩
  rcases h3 x hx with h4 | h4
  · exact hn x h4
  · exact Nat.le_trans hb.size h4

theorem plays_cells {w : World} {d rd L : Nat} {F G : List Nat} {m : Dsk.DM} {r : Dsk.RM} (h : Both w d F m rd G r L) : ∃ A c, w.cell? ⟨rd, 2, none⟩ = some (.slice A m.wait.length c) ∧ w.cell? ⟨rd, 4, none⟩ = some (.bool m.dead) := by
  obtain ⟨vd, vw, hI, _⟩ := h.ref
  obtain ⟨_, A, c, rfl⟩ := hI.form
  have e : r.waits.length = m.wait.length := by rw [h.sim.waits, List.length_map]
  refine ⟨A, c, ?_, ?_⟩
  · rw [hI.cells.2.2.1, e]
  · rw [hI.cells.2.2.2.2, h.sim.dead]

set_option maxRecDepth 100000 in
set_option maxHeartbeats 1600000 in
theorem walk (x : Int) (A : Option Addr) (n c : Nat) (l : List OpD) (w : World) (hl : Ops w A n l) (hn : n ≤ 4000000000000) :
    Calls Try.prog 3 #[.int .i64 x, .slice A n c] w fun e w' => e = .returned (.bool true) ∧ Below w.heap.size w w' := by
  have HL := Lib.hid hl
  clear hl
  go_enter Try.func3, Try.ntmps3
  go_wp2_with fail
  refine (fixed_any _).mono ?_
  rintro e w1 ⟨rfl, hbel⟩
  have B1 := Lib.hid hbel
  have L1 := Lib.hid (HL.out.kept hbel)
  clear hbel HL
  go_wp2_with fail
  refine (new_any _ x).mono ?_
  rintro e w2 ⟨d, F, rfl, hD, hb2, hF⟩
  have D2 := Lib.hid hD
  have B2 := Lib.hid hb2
  have F2 := Lib.hid hF
  clear hD hb2 hF
  go_wp2_with fail
  refine (rnew_any _ x).mono ?_
  rintro e w3 ⟨rd, G, rfl, hR, hb3, hG⟩
  have R3 : Hid (Both w3 d F (Dsk.fresh (clampN x)) rd G (Dsk.rfresh (clampN x)) 0) := ⟨D2.out.below hb3, hR, fun y hy hg => by have := D2.out.lt y hy; have := hG y hg; omega, Dsk.Sim.fresh _, Nat.le_refl _⟩
  have B3 := Lib.hid (B2.out.trans (hb3.mono B2.out.size))
  have N3 : Hid (∀ y ∈ F ++ G, w1.heap.size ≤ y) := fun y hy => (List.mem_append.1 hy).elim (F2.out y) (fun hg => Nat.le_trans B2.out.size (hG y hg))
  clear hR hb3 hG D2 B2 F2
  have q0 : w3.cell? ⟨rd, 0, none⟩ = some (.int .i64 ((Dsk.fresh (clampN x)).dur.length : Int)) := by
    obtain ⟨vd, vw, hI, _⟩ := R3.out.ref
    rw [hI.cells.1]
    have e := R3.out.sim.n
    rw [e]
  have S0 : ∀ k, Calls Try.prog 13 #[.pointer (some ⟨d, 0, none⟩)] (w3.drewN k) fun e w' => e = .returned (.int .i64 ((Dsk.fresh (clampN x)).dur.length : Int)) ∧ w3.drewN k = w' := fun k => size_any _ d F _ (R3.out.disk.drewN k)
  have S1 := Lib.hid S0
  clear S0
  generalize (Dsk.fresh (clampN x)).dur.length = sz at *
  go_wp2_with fail
  go_quiet ((go_at_call 13; exact Calls.quiet_of_same ((S1.out _).mono fun _ _ h => ⟨h.1, h.2.symm⟩)))
  go_wp2_with fail
  go_loopw [7] (fun i wr => ∃ k : Nat, k ≤ n ∧ i = .int .i64 k ∧ Rel w1 wr d rd k) (fun i _ => n - (intOf i).toNat)
  case atStart => exact ⟨0, by omega, rfl, F, _, G, _, R3.out.under (World.drewN_below _ _), B3.out.trans ((World.drewN_below _ _).mono B3.out.size), N3.out⟩
  case round =>
    obtain ⟨k, hk, rfl, F4, m, G4, r, hB, hb4, hN⟩ := hrel
    have BO := Lib.hid hB
    have B4 := Lib.hid hb4
    have N4 := Lib.hid hN
    clear hB hb4 hN q0 S1 R3 N3
    by_cases hlt : k < n
    · have i0 : (0 : Int) ≤ (k : Int) := by omega
      have i1 : (k : Int) < (n : Int) := by omega
      obtain ⟨b, off, o, rfl, hblt, hlk, hog, htk, hx0, hx1, hx2, hx3⟩ := (L1.out.kept B4.out).at_ hlt
      have OG := Lib.hid hog
      have OL : Hid (0 < o.n → ∀ a, o.A = some a → a.block ∉ F4 ++ G4) := by
        intro h0 a ha hm
        have h1 : OpGood w1 o := L1.out.2.1 o (List.mem_of_getElem? hlk)
        have := h1.lt h0 a ha
        have := N4.out _ hm
        omega
      have ST := Lib.hid (step_any wr.drew d rd k F4 G4 m r o (BO.out.under (Below.refl _ _).drew) (by omega) ⟨OG.out.k, OG.out.i0, OG.out.i1, OG.out.s, OG.out.keep, OG.out.n, OG.out.lt⟩ OL.out)
      clear hlk hog htk
      go_wp2_with fail
      refine wp_region_noPanic ?_
      refine wp_region_held_drew (S := fun _ => True) (by kernel_rfl) trivial (fun hHeld => ?_)
      refine take_ (i := 0) (v := ?_) 31 rfl rfl (by kernel_rfl) (by kernel_rfl) (by kernel_rfl) (fun _ _ _ h => h) (Or.inl ⟨by rfl, ?_⟩) (by assumption) ?_
      rotate_left
      · (intro wS hSw; (try dsimp only at hSw); go_simp; try with_reducible rfl)
      simp only [Act.put, List.setIfInBounds_toArray, List.set_cons_zero, List.set_cons_succ]
      refine take_ (i := 1) (v := ?_) 32 rfl rfl (by kernel_rfl) (by kernel_rfl) (by kernel_rfl) (fun _ _ _ h => h) (Or.inl ⟨by rfl, ?_⟩) (by assumption) ?_
      rotate_left
      · (intro wS hSw; (try dsimp only at hSw); go_simp; try with_reducible rfl)
      simp only [Act.put, List.setIfInBounds_toArray, List.set_cons_zero, List.set_cons_succ]
      refine take_ (i := 2) (v := ?_) 33 rfl rfl (by kernel_rfl) (by kernel_rfl) (by kernel_rfl) (fun _ _ _ h => h) (Or.inl ⟨by rfl, ?_⟩) (by assumption) ?_
      rotate_left
      · (intro wS hSw; (try dsimp only at hSw); go_simp; try with_reducible rfl)
      simp only [Act.put, List.setIfInBounds_toArray, List.set_cons_zero, List.set_cons_succ]
      refine take_ (i := 3) (v := ?_) 34 rfl rfl (by kernel_rfl) (by kernel_rfl) (by kernel_rfl) (fun _ _ _ h => h) (Or.inl ⟨by rfl, ?_⟩) (by assumption) ?_
      rotate_left
      · (intro wS hSw; (try dsimp only at hSw); go_simp; try with_reducible rfl)
      simp only [Act.put, List.setIfInBounds_toArray, List.set_cons_zero, List.set_cons_succ]
      refine take_ (i := 4) (v := ?_) 35 rfl rfl (by kernel_rfl) (by kernel_rfl) (by kernel_rfl) (fun _ _ _ h => h) (Or.inl ⟨by rfl, ?_⟩) (by assumption) ?_
      rotate_left
      · (intro wS hSw; (try dsimp only at hSw); go_simp; try with_reducible rfl)
      simp only [Act.put, List.setIfInBounds_toArray, List.set_cons_zero, List.set_cons_succ]
      refine one_ (i := 5) _ (by kernel_rfl) rfl (fun K hK => ?_)
      go_simp
      refine hK.out _ _ trivial (fun hHeld => ?_)
      clear hK K
      refine one_ (i := 6) _ (by kernel_rfl) rfl (fun K hK => ?_)
      go_simp
      refine ST.out.mono ?_
      rintro e w5 ⟨rfl, F5, m5, G5, r5, hB5, hO5, hN5⟩
      obtain ⟨Aq, cq, q2, q4⟩ := plays_cells hB5
      have PB := Lib.hid hB5
      have PR : Hid (Rel w1 w5 d rd (k + 1)) := Rel.next (w := w1) (wr := wr) B4.out N4.out (BTurned.before ((Below.refl _ _).drew) ⟨F5, m5, G5, r5, hB5, hO5, hN5⟩)
      have P15 := Lib.hid (pending_any w5 d F5 m5 hB5.disk)
      have P16 := Lib.hid (dead_any w5 d F5 m5 hB5.disk)
      clear hB5 hO5 hN5 ST
      generalize m5.wait.length = nw at *
      generalize m5.dead = dd at *
      go_wp2_with fail
      refine hK.out _ _ trivial (fun hHeld => ?_)
      clear hK K
      clear hx0 hx1 hx2 hx3
      refine wpAnyH_strong (S' := fun w' => w'.cell? ⟨rd, 2, none⟩ = some (.slice Aq nw cq) ∧ w'.cell? ⟨rd, 4, none⟩ = some (.bool dd)) (fun _ _ => trivial) _ _ _ _ ?_
      have hH5 : w5.cell? ⟨rd, 2, none⟩ = some (.slice Aq nw cq) ∧ w5.cell? ⟨rd, 4, none⟩ = some (.bool dd) := ⟨q2, q4⟩
      refine take_ (i := 7) (v := ?_) 38 rfl rfl (by kernel_rfl) (by kernel_rfl) (by kernel_rfl) (fun _ _ _ h => h) (Or.inl ⟨by rfl, ?_⟩) (by assumption) ?_
      rotate_left
      · (intro wS hSw; (try dsimp only at hSw); go_simp; try with_reducible rfl)
      simp only [Act.put, List.setIfInBounds_toArray, List.set_cons_zero, List.set_cons_succ]
      refine take_ (i := 8) (v := ?_) 39 rfl rfl (by kernel_rfl) (by kernel_rfl) (by kernel_rfl) (fun _ _ _ h => h) (Or.inl ⟨by rfl, ?_⟩) (by assumption) ?_
      rotate_left
      · (intro wS hSw; (try dsimp only at hSw); go_simp; try with_reducible rfl)
      simp only [Act.put, List.setIfInBounds_toArray, List.set_cons_zero, List.set_cons_succ]
      refine take_ (i := 9) (v := ?_) 40 rfl rfl (by kernel_rfl) (by kernel_rfl) (by kernel_rfl) (fun _ _ _ h => h) (Or.inl ⟨by rfl, ?_⟩) (by assumption) ?_
      rotate_left
      · (intro wS hSw; (try dsimp only at hSw); go_simp; try with_reducible rfl)
      simp only [Act.put, List.setIfInBounds_toArray, List.set_cons_zero, List.set_cons_succ]
      refine take_ (i := 11) (v := ?_) 42 rfl rfl (by kernel_rfl) (by kernel_rfl) (by kernel_rfl) (fun _ _ _ h => h) (Or.inl ⟨by rfl, ?_⟩) (by assumption) ?_
      rotate_left
      · (intro wS hSw; (try dsimp only at hSw); go_simp; try with_reducible rfl)
      simp only [Act.put, List.setIfInBounds_toArray, List.set_cons_zero, List.set_cons_succ]
      refine take_ (i := 12) (v := ?_) 43 rfl rfl (by kernel_rfl) (by kernel_rfl) (by kernel_rfl) (fun _ _ _ h => h) (Or.inl ⟨by rfl, ?_⟩) (by assumption) ?_
      rotate_left
      · (intro wS hSw; (try dsimp only at hSw); go_simp; try with_reducible rfl)
      simp only [Act.put, List.setIfInBounds_toArray, List.set_cons_zero, List.set_cons_succ]
      refine take_ (i := 13) (v := ?_) 44 rfl rfl (by kernel_rfl) (by kernel_rfl) (by kernel_rfl) (fun _ _ _ h => h) (Or.inl ⟨by rfl, ?_⟩) (by assumption) ?_
      rotate_left
      · (intro wS hSw; (try dsimp only at hSw); go_simp; try with_reducible rfl)
      simp only [Act.put, List.setIfInBounds_toArray, List.set_cons_zero, List.set_cons_succ]
      refine take_ (i := 14) (v := ?_) 45 rfl rfl (by kernel_rfl) (by kernel_rfl) (by kernel_rfl) (fun _ _ _ h => h) (Or.inl ⟨by rfl, ?_⟩) (by assumption) ?_
      rotate_left
      · (intro wS hSw; (try dsimp only at hSw); go_simp; try with_reducible rfl)
      simp only [Act.put, List.setIfInBounds_toArray, List.set_cons_zero, List.set_cons_succ]
      refine take_ (i := 15) (v := ?_) 46 rfl rfl (by kernel_rfl) (by kernel_rfl) (by kernel_rfl) (fun _ _ _ h => h) (Or.inl ⟨by rfl, ?_⟩) (by assumption) ?_
      rotate_left
      · (intro wS hSw; (try dsimp only at hSw); go_simp; try with_reducible rfl)
      simp only [Act.put, List.setIfInBounds_toArray, List.set_cons_zero, List.set_cons_succ]
      refine one_ (i := 10) _ (by kernel_rfl) rfl (fun K hK => ?_)
      go_simp
      refine P15.out.mono ?_
      rintro e w' ⟨rfl, rfl⟩
      go_wp2_with fail
      refine hK.out _ _ ⟨q2, q4⟩ (fun hHeld => ?_)
      clear hK K
      refine take_ (i := 16) (v := ?_) 47 rfl rfl (by kernel_rfl) (by kernel_rfl) (by kernel_rfl) (fun _ _ _ h => h) (Or.inl ⟨by rfl, ?_⟩) (by assumption) ?_
      rotate_left
      · (intro wS hSw; (try dsimp only at hSw); go_simp; try with_reducible rfl)
      simp only [Act.put, List.setIfInBounds_toArray, List.set_cons_zero, List.set_cons_succ]
      refine take_ (i := 17) (v := ?_) 48 rfl rfl (by kernel_rfl) (by kernel_rfl) (by kernel_rfl) (fun _ _ _ h => h) (Or.inl ⟨by rfl, ?_⟩) (by assumption) ?_
      rotate_left
      · (intro wS hSw; (try dsimp only at hSw); go_simp; try with_reducible rfl)
      simp only [Act.put, List.setIfInBounds_toArray, List.set_cons_zero, List.set_cons_succ]
      refine take_ (i := 18) (v := ?_) 49 rfl rfl (by kernel_rfl) (by kernel_rfl) (by kernel_rfl) (fun _ _ _ h => h) (Or.inl ⟨by rfl, ?_⟩) (by assumption) ?_
      rotate_left
      · (intro wS hSw; (try dsimp only at hSw); go_simp; try with_reducible rfl)
      simp only [Act.put, List.setIfInBounds_toArray, List.set_cons_zero, List.set_cons_succ]
      refine take_ (i := 19) (v := ?_) 50 rfl rfl (by kernel_rfl) (by kernel_rfl) (by kernel_rfl) (fun _ _ _ h => h) (Or.inl ⟨by rfl, ?_⟩) (by assumption) ?_
      rotate_left
      · (intro wS hSw; (try dsimp only at hSw); go_simp; try with_reducible rfl)
      simp only [Act.put, List.setIfInBounds_toArray, List.set_cons_zero, List.set_cons_succ]
      refine take_ (i := 21) (v := ?_) 52 rfl rfl (by kernel_rfl) (by kernel_rfl) (by kernel_rfl) (fun _ _ _ h => h) (Or.inl ⟨by rfl, ?_⟩) (by assumption) ?_
      rotate_left
      · (intro wS hSw; (try dsimp only at hSw); go_simp; try with_reducible rfl)
      simp only [Act.put, List.setIfInBounds_toArray, List.set_cons_zero, List.set_cons_succ]
      refine take_ (i := 22) (v := ?_) 53 rfl rfl (by kernel_rfl) (by kernel_rfl) (by kernel_rfl) (fun _ _ _ h => h) (Or.inl ⟨by rfl, ?_⟩) (by assumption) ?_
      rotate_left
      · (intro wS hSw; (try dsimp only at hSw); go_simp; try with_reducible rfl)
      simp only [Act.put, List.setIfInBounds_toArray, List.set_cons_zero, List.set_cons_succ]
      refine take_ (i := 23) (v := ?_) 54 rfl rfl (by kernel_rfl) (by kernel_rfl) (by kernel_rfl) (fun _ _ _ h => h) (Or.inl ⟨by rfl, ?_⟩) (by assumption) ?_
      rotate_left
      · (intro wS hSw; (try dsimp only at hSw); go_simp; try with_reducible rfl)
      simp only [Act.put, List.setIfInBounds_toArray, List.set_cons_zero, List.set_cons_succ]
      refine take_ (i := 24) (v := ?_) 55 rfl rfl (by kernel_rfl) (by kernel_rfl) (by kernel_rfl) (fun _ _ _ h => h) (Or.inl ⟨by rfl, ?_⟩) (by assumption) ?_
      rotate_left
      · (intro wS hSw; (try dsimp only at hSw); go_simp; try with_reducible rfl)
      simp only [Act.put, List.setIfInBounds_toArray, List.set_cons_zero, List.set_cons_succ]
      refine one_ (i := 20) _ (by kernel_rfl) rfl (fun K hK => ?_)
      go_simp
      refine P16.out.mono ?_
      rintro e w' ⟨rfl, rfl⟩
      go_wp2_with fail
      refine hK.out _ _ ⟨q2, q4⟩ (fun hHeld => ?_)
      clear hK K
      refine take_ (i := 25) (v := ?_) 56 rfl rfl (by kernel_rfl) (by kernel_rfl) (by kernel_rfl) (fun _ _ _ h => h) (Or.inl ⟨by rfl, ?_⟩) (by assumption) ?_
      rotate_left
      · (intro wS hSw; (try dsimp only at hSw); go_simp; try with_reducible rfl)
      simp only [Act.put, List.setIfInBounds_toArray, List.set_cons_zero, List.set_cons_succ]
      refine take_ (i := 26) (v := ?_) 57 rfl rfl (by kernel_rfl) (by kernel_rfl) (by kernel_rfl) (fun _ _ _ h => h) (Or.inl ⟨by rfl, ?_⟩) (by assumption) ?_
      rotate_left
      · (intro wS hSw; (try dsimp only at hSw); go_simp; try with_reducible rfl)
      simp only [Act.put, List.setIfInBounds_toArray, List.set_cons_zero, List.set_cons_succ]
      refine wpAnyH_done (by kernel_rfl) ?_ _
      refine NoPanic.normal ?_
      clear q2 q4
      go_wp2_with fail
      go_roundw
      case rel => exact ⟨k + 1, by omega, by go_num, PR.out⟩
      case measure => simp [intOf]; omega
    · obtain rfl : k = n := by omega
      go_wp2_with fail
      go_ret
      exact ⟨rfl, B1.out.trans (B4.out.mono B1.out.size)⟩
theorem opens {H : Type} {enc : TypeId × Value → H} {W : World} {base : Nat} {args : Array Value} {ds : List (DataW H)} {p : List MemPlace}
    (hval : ∀ (j : Nat) t v, Try.f3.params[j]? = some t → args[j]? = some v → Value.okWide Try.prog W .any base t v)
    (hA : DataW.TrodAll enc Try.prog W 0 (fun _ => true) true Try.f3.params.toList args.toList ds p) (hlt : ∀ x ∈ p, x.block < W.heap.size) (hsz : (DataW.weightsEach Try.prog Try.f3.params.toList ds).all (· ≤ reachBytes) = true) :
    Calls Try.prog 3 args W fun e W' => e = .returned (.bool true) ∧ Below W.heap.size W W' := by
  rw [Try.params3] at hA hval hsz
  obtain ⟨v0, vs0, d0, ds0, p0, q0, hargs, rfl, rfl, h0, r0⟩ := trodAll_cons hA
  obtain ⟨v1, vs1, d1, ds1, p1, q1, rfl, rfl, rfl, h1, r1⟩ := trodAll_cons r0
  obtain ⟨rfl, rfl, rfl⟩ := trodAll_nil r1
  obtain rfl : args = #[v0, v1] := by cases args; simp_all
  obtain ⟨x, rfl, _, _⟩ := open_i64 (hval 0 3 v0 rfl rfl) h0
  obtain ⟨A, n, c, l, rfl, hl, _, hd⟩ := open_ops (hval 1 22 v1 rfl rfl) h1
  have hn : n ≤ 4000000000000 := by
    rcases hd with ⟨_, rfl⟩ | ⟨el, sp, rfl, h2⟩
    · omega
    · have := sized_slice hsz (j := 1) (t := 22) (e := 35) rfl rfl Try.underlying22
      rw [bytesOp] at this
      simp only [reachBytes] at this
      omega
  exact walk x A n c l W hl hn

set_option maxRecDepth 100000 in
theorem lifted (os : Os) (started : os.Started) (H : Type) (enc : TypeId × Value → H) :
    ReturnsInHanded {} Try.checked os 3 .any (Rows.diskPlaysSpec.pre6 enc Try.prog Try.f3 Rows.diskPlaysRow.domain false) (Rows.diskPlaysSpec.post enc Try.prog Try.f3 false true false false) := by
  refine returnsInHanded_of_change_sized (C := Try.checked) own started (by kernel_rfl) Try.func3
    (ChangeSpec.witness6 (enc := enc) (C := Try.checked) false ⟨#[], #[.int .i64 0, .slice none 0 0], []⟩ 8 (by kernel_rfl) (by kernel_rfl) (by kernel_rfl) (by kernel_rfl)) ?_
  intro W base args ds gs before hval hW _ hsz0 _
  refine law_calls laidOut Try.underlying4 rfl (by rw [Try.params3]; exact of_decide_eq_true (by kernel_rfl)) rfl (fun ds h => by match ds, h with | [_, _], _ => rfl) hW ?_
  obtain ⟨rfl, p, hA, hlt⟩ := law_args rfl hW
  have hsz : (DataW.weightsEach Try.prog (Try.f3.params.toList ++ []) (ds ++ [])).all (· ≤ reachBytes) = true := hsz0
  rw [List.append_nil, List.append_nil] at hsz
  exact opens hval hA hlt hsz

theorem over : Rows.diskPlaysRow.holds Try.pinned (OpenSpec.ofChange Rows.diskPlaysSpec) :=
  OpenClaim.holds_of_wide 3 Try.f3 rfl rfl rfl rfl rfl rfl rfl ⟨rfl, rfl, rfl, rfl, rfl⟩ rfl rfl rfl rfl rfl (by kernel_rfl) Try.func3 (by kernel_rfl)
    (of_decide_eq_true (by kernel_rfl)) (by unfold Func.isWrapper; first | (rw [if_pos (by decide +kernel)]; kernel_rfl) | (rw [if_neg (by decide +kernel)]; exact ⟨rfl, rfl⟩))
    (fun os started H enc _ => lifted os started H enc)

theorem proved : Rows.DiskPlaysSaid := over

end Go.Proofs.Ytejpefiblodefaa.diskPlays
