/-
  pager: the contracts of makeRoom and fits. · pager: the contracts of fits and commit. · pager: the contract of a transaction's Commit.
-/
import Derived.Test.YtkajneeihhobhaaGreatMPgF
import Derived.Test.YtkajneeihhobhaaGreatMSync
import Derived.Test.YtkajneeihhobhaaGreatMApp
import Derived.Test.YtkajneeihhobhaaGreatMPgC
namespace Go.Proofs.YtkajneeihhobhaaGreat
open Go.RowKit Go.Maps Wal Pgr

theorem punder_drewN (w : World) (n : Nat) : Below w.heap.size w (w.drewN n) := ⟨rfl, rfl, rfl, Nat.le_refl _, fun _ _ => rfl⟩
/-- The map of what is away has turned. -/
theorem PagAt.mapped {w w' : World} {P : PS} {tx : Value} {f' : Nat → Option (List Nat)} (h : PagAt w P tx) (hm : MapAt w' P.am P.N f') (ho : Only [P.am] w w') : PagAt w' { P with f := f' } tx ∧ Moved w w' P { P with f := f' } :=
  ⟨⟨h.held.only ho (by simpa using h.ne), h.log.only ho (fun x hx => by simp only [List.mem_singleton]; rintro rfl; exact h.afar (List.mem_append.2 (.inl hx))) (fun x hx => by simp only [List.mem_singleton]; rintro rfl; exact h.afar (List.mem_append.2 (.inr hx))), hm, h.ne, h.pfar, h.afar, h.size⟩,
    ⟨rfl, rfl, rfl, rfl, rfl, rfl, ho.mono (fun x hx => .inl (pmem_foot.2 (.inr (.inl (by simpa using hx))))), Grown.refl _ _, Grown.refl _ _, rfl⟩⟩
def RoomRes (w : World) (P : PS) (tx : Value) (C : List Com) (e : Ending) (w' : World) : Prop :=
  (e = .returned (.int .i64 0) ∧ Went w w' P tx fun P' => PInv P' C ∧ P'.s.needs = []) ∨
  (e = .returned (.int .i64 10) ∧ Died w w' P tx C)
set_option maxRecDepth 100000 in
set_option maxHeartbeats 6400000 in
theorem mkroom_any (w : World) (P : PS) (tx : Value) (C : List Com) (h : PagAt w P tx) (hi : PInv P C) (hne : P.s.first ≤ C.length) (hC : C.length < 1152921504606846976) (hf : -1 ≤ P.m.fuel) :
    Calls Tryz.prog 67 #[.pointer (some ⟨P.p, 0, none⟩)] w (RoomRes w P tx C) := by
  have SY := Lib.hid (psync_any w P tx C h hi)
  have HC : Hid (P.s.first ≤ C.length ∧ C.length < 1152921504606846976 ∧ -1 ≤ P.m.fuel) := ⟨hne, hC, hf⟩
  clear h hi hne hC hf
  go_enter Tryz.func67, Tryz.ntmps67
  go_wp2_with fail
  refine SY.out.mono ?_
  rintro e w1 hres
  rcases hres with ⟨rfl, P1, hp1, hm1, hf1, hi1, hd1, hs1, hfi1, hn1, hg1⟩ | ⟨rfl, hd⟩
  · have HM := home_any w1 P1 tx C hp1 hi1 hs1 (hf1.2 HC.out.2.2)
    rw [hm1.p] at HM
    have HM := Lib.hid HM
    have M1 : Hid (Moved w w1 P P1 ∧ Fuels P.m P1.m ∧ P1.s.first ≤ C.length ∧ P1.s.synced = C.length) := ⟨hm1, hf1, by rw [hfi1]; exact HC.out.1, hs1⟩
    clear SY hp1 hm1 hf1 hi1 hd1 hs1 hfi1 hn1 hg1
    go_wp2_with fail
    refine HM.out.mono ?_
    rintro e w2 hres
    rcases hres with ⟨rfl, P2, hp2, hm2, hf2, hi2, hs2, hg2, hall⟩ | ⟨rfl, hd⟩
    · have hpp : P2.p = P.p := hm2.p.trans M1.out.1.p
      have M2 : Hid (Moved w w2 P P2 ∧ Fuels P.m P2.m) := ⟨M1.out.1.trans hm2, M1.out.2.1.trans hf2⟩
      have hfi : P2.s.first ≤ C.length := by rw [hs2]; exact M1.out.2.2.1
      have hsy : P2.s.synced = C.length := by rw [hs2]; exact M1.out.2.2.2
      have TC := hi2.trim hsy hall hfi HC.out.2.1
      have H2 := Lib.hid hp2
      have I2 := Lib.hid hi2
      have HP := Lib.hid hpp
      have hc := hp2.held.cell 1
      rw [hpp] at hc
      have c1 : w2.cell? ⟨P.p, 1, none⟩ = some (.pointer (some ⟨P2.lb, 0, none⟩)) := hc
      obtain ⟨vn, hl, _⟩ := hp2.log.log
      have LA := last_any w2.drew P2.lb P2.d vn P2.s (hl.only ((Only.refl [] w2).drew) (fun _ _ hx => by cases hx)) (by have := hi2.inv.ok.first; omega) (by have := hi2.inv.ok.count; omega)
      rw [hi2.last] at LA
      have LA := Lib.hid LA
      have TR : ∀ q, Hid (Calls Tryz.prog 83 #[.pointer (some ⟨P2.lb, 0, none⟩), .int .i64 (C.length : Int)] (w2.drewN q) (LRes (w2.drewN q) P2.lb P2.G P2.d P2.F (trimO P2.s P2.m (C.length : Int)))) := fun q =>
        Lib.hid (trim_any (w2.drewN q) P2.lb P2.d P2.s P2.G P2.F P2.m (C.length : Int) (hp2.log.drewN q) hi2.inv.ok (by rw [hi2.last, hsy]; exact Int.le_refl _) (by have := hi2.waits; omega))
      obtain ⟨o, ho⟩ : ∃ o, o = trimO P2.s P2.m (C.length : Int) := ⟨_, rfl⟩
      rw [← ho] at TC
      simp only [← ho] at TR
      clear ho hl hp2 hi2 hm2 hf2 hs2 hg2 hall hfi hsy hpp hc HM M1
      go_upto_region 7 with fail
      rcases TC with ⟨s', m', rfl, hi3, h3, h4, h5, h6⟩ | ⟨m', rfl, h2, h3⟩
      · refine wp_region_noPanic ?_
        refine wp_region_held_drew (S := fun w' => w'.cell? ⟨P.p, 1, none⟩ = some (.pointer (some ⟨P2.lb, 0, none⟩))) (by kernel_rfl) c1 (fun hHeld => ?_)
        refine take_ (i := 0) (v := ?_) 16 rfl rfl (by kernel_rfl) (by kernel_rfl) (by kernel_rfl) (fun _ _ _ h => h) (Or.inl ⟨by rfl, ?_⟩) (by assumption) ?_
        rotate_left
        · (intro wS hSw; (try dsimp only at hSw); go_simp; try with_reducible rfl)
        simp only [Act.put, List.setIfInBounds_toArray, List.set_cons_zero, List.set_cons_succ]
        refine take_ (i := 1) (v := ?_) 17 rfl rfl (by kernel_rfl) (by kernel_rfl) (by kernel_rfl) (fun _ _ _ h => h) (Or.inl ⟨by rfl, ?_⟩) (by assumption) ?_
        rotate_left
        · (intro wS hSw; (try dsimp only at hSw); go_simp; try with_reducible rfl)
        simp only [Act.put, List.setIfInBounds_toArray, List.set_cons_zero, List.set_cons_succ]
        refine take_ (i := 2) (v := ?_) 18 rfl rfl (by kernel_rfl) (by kernel_rfl) (by kernel_rfl) (fun _ _ _ h => h) (Or.inl ⟨by rfl, ?_⟩) (by assumption) ?_
        rotate_left
        · (intro wS hSw; (try dsimp only at hSw); go_simp; try with_reducible rfl)
        simp only [Act.put, List.setIfInBounds_toArray, List.set_cons_zero, List.set_cons_succ]
        refine take_ (i := 3) (v := ?_) 19 rfl rfl (by kernel_rfl) (by kernel_rfl) (by kernel_rfl) (fun _ _ _ h => h) (Or.inl ⟨by rfl, ?_⟩) (by assumption) ?_
        rotate_left
        · (intro wS hSw; (try dsimp only at hSw); go_simp; try with_reducible rfl)
        simp only [Act.put, List.setIfInBounds_toArray, List.set_cons_zero, List.set_cons_succ]
        refine take_ (i := 4) (v := ?_) 20 rfl rfl (by kernel_rfl) (by kernel_rfl) (by kernel_rfl) (fun _ _ _ h => h) (Or.inl ⟨by rfl, ?_⟩) (by assumption) ?_
        rotate_left
        · (intro wS hSw; (try dsimp only at hSw); go_simp; try with_reducible rfl)
        simp only [Act.put, List.setIfInBounds_toArray, List.set_cons_zero, List.set_cons_succ]
        refine take_ (i := 5) (v := ?_) 21 rfl rfl (by kernel_rfl) (by kernel_rfl) (by kernel_rfl) (fun _ _ _ h => h) (Or.inl ⟨by rfl, ?_⟩) (by assumption) ?_
        rotate_left
        · (intro wS hSw; (try dsimp only at hSw); go_simp; try with_reducible rfl)
        simp only [Act.put, List.setIfInBounds_toArray, List.set_cons_zero, List.set_cons_succ]
        refine take_ (i := 6) (v := ?_) 22 rfl rfl (by kernel_rfl) (by kernel_rfl) (by kernel_rfl) (fun _ _ _ h => h) (Or.inl ⟨by rfl, ?_⟩) (by assumption) ?_
        rotate_left
        · (intro wS hSw; (try dsimp only at hSw); go_simp; try with_reducible rfl)
        simp only [Act.put, List.setIfInBounds_toArray, List.set_cons_zero, List.set_cons_succ]
        refine take_ (i := 7) (v := ?_) 23 rfl rfl (by kernel_rfl) (by kernel_rfl) (by kernel_rfl) (fun _ _ _ h => h) (Or.inl ⟨by rfl, ?_⟩) (by assumption) ?_
        rotate_left
        · (intro wS hSw; (try dsimp only at hSw); go_simp; try with_reducible rfl)
        simp only [Act.put, List.setIfInBounds_toArray, List.set_cons_zero, List.set_cons_succ]
        refine take_ (i := 8) (v := ?_) 24 rfl rfl (by kernel_rfl) (by kernel_rfl) (by kernel_rfl) (fun _ _ _ h => h) (Or.inl ⟨by rfl, ?_⟩) (by assumption) ?_
        rotate_left
        · (intro wS hSw; (try dsimp only at hSw); go_simp; try with_reducible rfl)
        simp only [Act.put, List.setIfInBounds_toArray, List.set_cons_zero, List.set_cons_succ]
        refine one_ (i := 9) _ (by kernel_rfl) rfl (fun K hK => ?_)
        go_simp
        refine LA.out.mono ?_
        rintro e w3 ⟨rfl, q, rfl⟩
        go_wp2_with fail
        refine hK.out _ _ c1 (fun hHeld => ?_)
        clear hK K
        refine one_ (i := 10) _ (by kernel_rfl) rfl (fun K hK => ?_)
        go_simp
        refine (TR (1 + q)).out.mono ?_
        rintro e w4 ⟨rfl, ht⟩
        dsimp only at ht
        obtain ⟨G4, F4, hp4, hm4⟩ := (H2.out.drewN (1 + q)).logged ht h6
        have z1 : w4.cell? ⟨P2.p, 1, none⟩ = some (.pointer (some ⟨P2.lb, 0, none⟩)) := hp4.held.cell 1
        rw [HP.out] at z1
        have e00 : (P2.dead || decide ((0 : Int) = 10)) = false := by rw [I2.out.alive]; rfl
        have HD := (heed_any w4 _ tx 0 hp4).mono fun e w' (h9 : e = .returned (.int .i64 0) ∧ w' = w4.setCell ⟨P2.p, 5, none⟩ (.bool (P2.dead || decide ((0 : Int) = 10)))) => (⟨h9.1, by rw [h9.2, e00, HP.out]⟩ : e = .returned (.int .i64 0) ∧ w' = w4.setCell ⟨P.p, 5, none⟩ (.bool false))
        have M5 := hp4.marked false
        rw [PS.alive_same (by exact I2.out.alive)] at M5
        have G5 : PagAt (w4.setCell ⟨P2.p, 5, none⟩ (.bool false)) { P2 with G := G4, F := F4, s := s', m := m' } tx ∧ Moved w (w4.setCell ⟨P2.p, 5, none⟩ (.bool false)) P { P2 with G := G4, F := F4, s := s', m := m' } :=
          ⟨M5.1, ((M2.out.1.under (punder_drewN _ (1 + q))).trans hm4).trans M5.2⟩
        rw [HP.out] at G5
        have HD : Hid (Calls Tryz.prog 49 #[.pointer (some ⟨P.p, 0, none⟩), .int .i64 0] w4 fun e w' => e = .returned (.int .i64 0) ∧ w' = w4.setCell ⟨P.p, 5, none⟩ (.bool false)) := by
          rw [← HP.out] at HD ⊢
          exact Lib.hid HD
        have G5 := Lib.hid G5
        have R5 : Hid (PInv { P2 with s := s', m := m', f := fun _ => none } C ∧ s'.needs = [] ∧ Fuels P2.m m') := ⟨hi3, h5, h4⟩
        clear ht hp4 hm4 M5 e00 hi3 h3 h4 h5 h6 TR LA H2 I2
        go_wp2_with fail
        refine hK.out _ _ z1 (fun hHeld => ?_)
        clear hK K
        refine one_ (i := 11) _ (by kernel_rfl) rfl (fun K hK => ?_)
        go_simp
        refine HD.out.mono ?_
        rintro e w5 ⟨rfl, rfl⟩
        go_wp2_with fail
        refine hK.out _ _ ((World.cell?_setCell_other _ _ _ _ (fun e => by injection e; omega)).trans z1) (fun hHeld => ?_)
        clear hK K
        refine take_ (i := 12) (v := ?_) 5 rfl rfl (by kernel_rfl) (by kernel_rfl) (by kernel_rfl) (fun _ _ _ h => h) (Or.inl ⟨by rfl, ?_⟩) (by assumption) ?_
        rotate_left
        · (intro wS hSw; (try dsimp only at hSw); go_simp; try with_reducible rfl)
        simp only [Act.put, List.setIfInBounds_toArray, List.set_cons_zero, List.set_cons_succ]
        refine wpAnyH_done (by kernel_rfl) ?_ _
        refine NoPanic.normal ?_
        generalize w4.setCell ⟨P.p, 5, none⟩ (.bool false) = w5 at G5 ⊢
        have d3 : w5.cell? ⟨P.p, 3, none⟩ = some (.map (some P2.am)) := G5.out.1.held.cell 3
        obtain ⟨w6, hr6, hM6, hO6⟩ := G5.out.1.away.clear
        have G6 := G5.out.1.mapped hM6 hO6
        have RES : Hid (Went w w6 P tx fun P' => PInv P' C ∧ P'.s.needs = []) := by
          refine ⟨_, G6.1, G5.out.2.trans G6.2, M2.out.2.trans R5.out.2.2, ?_, R5.out.2.1⟩
          have i := R5.out.1
          exact ⟨i.inv, i.frm, i.reg, i.fi, i.fine, i.clear, i.home, i.away, i.wait, i.alive⟩
        have hr6 : ∀ ty, (Builtin.clear_ #[87] ty #[.map (some P2.am)]).run Tryz.prog w5 = .ok (.tuple #[]) w6 := hr6
        clear G6 hM6 hO6 z1 HD hHeld c1 G5 R5
        go_wp2_with fail
        go_ret
        exact .inl ⟨rfl, RES.out⟩
      · refine wp_region_noPanic ?_
        refine wp_region_held_drew (S := fun w' => w'.cell? ⟨P.p, 1, none⟩ = some (.pointer (some ⟨P2.lb, 0, none⟩))) (by kernel_rfl) c1 (fun hHeld => ?_)
        refine take_ (i := 0) (v := ?_) 16 rfl rfl (by kernel_rfl) (by kernel_rfl) (by kernel_rfl) (fun _ _ _ h => h) (Or.inl ⟨by rfl, ?_⟩) (by assumption) ?_
        rotate_left
        · (intro wS hSw; (try dsimp only at hSw); go_simp; try with_reducible rfl)
        simp only [Act.put, List.setIfInBounds_toArray, List.set_cons_zero, List.set_cons_succ]
        refine take_ (i := 1) (v := ?_) 17 rfl rfl (by kernel_rfl) (by kernel_rfl) (by kernel_rfl) (fun _ _ _ h => h) (Or.inl ⟨by rfl, ?_⟩) (by assumption) ?_
        rotate_left
        · (intro wS hSw; (try dsimp only at hSw); go_simp; try with_reducible rfl)
        simp only [Act.put, List.setIfInBounds_toArray, List.set_cons_zero, List.set_cons_succ]
        refine take_ (i := 2) (v := ?_) 18 rfl rfl (by kernel_rfl) (by kernel_rfl) (by kernel_rfl) (fun _ _ _ h => h) (Or.inl ⟨by rfl, ?_⟩) (by assumption) ?_
        rotate_left
        · (intro wS hSw; (try dsimp only at hSw); go_simp; try with_reducible rfl)
        simp only [Act.put, List.setIfInBounds_toArray, List.set_cons_zero, List.set_cons_succ]
        refine take_ (i := 3) (v := ?_) 19 rfl rfl (by kernel_rfl) (by kernel_rfl) (by kernel_rfl) (fun _ _ _ h => h) (Or.inl ⟨by rfl, ?_⟩) (by assumption) ?_
        rotate_left
        · (intro wS hSw; (try dsimp only at hSw); go_simp; try with_reducible rfl)
        simp only [Act.put, List.setIfInBounds_toArray, List.set_cons_zero, List.set_cons_succ]
        refine take_ (i := 4) (v := ?_) 20 rfl rfl (by kernel_rfl) (by kernel_rfl) (by kernel_rfl) (fun _ _ _ h => h) (Or.inl ⟨by rfl, ?_⟩) (by assumption) ?_
        rotate_left
        · (intro wS hSw; (try dsimp only at hSw); go_simp; try with_reducible rfl)
        simp only [Act.put, List.setIfInBounds_toArray, List.set_cons_zero, List.set_cons_succ]
        refine take_ (i := 5) (v := ?_) 21 rfl rfl (by kernel_rfl) (by kernel_rfl) (by kernel_rfl) (fun _ _ _ h => h) (Or.inl ⟨by rfl, ?_⟩) (by assumption) ?_
        rotate_left
        · (intro wS hSw; (try dsimp only at hSw); go_simp; try with_reducible rfl)
        simp only [Act.put, List.setIfInBounds_toArray, List.set_cons_zero, List.set_cons_succ]
        refine take_ (i := 6) (v := ?_) 22 rfl rfl (by kernel_rfl) (by kernel_rfl) (by kernel_rfl) (fun _ _ _ h => h) (Or.inl ⟨by rfl, ?_⟩) (by assumption) ?_
        rotate_left
        · (intro wS hSw; (try dsimp only at hSw); go_simp; try with_reducible rfl)
        simp only [Act.put, List.setIfInBounds_toArray, List.set_cons_zero, List.set_cons_succ]
        refine take_ (i := 7) (v := ?_) 23 rfl rfl (by kernel_rfl) (by kernel_rfl) (by kernel_rfl) (fun _ _ _ h => h) (Or.inl ⟨by rfl, ?_⟩) (by assumption) ?_
        rotate_left
        · (intro wS hSw; (try dsimp only at hSw); go_simp; try with_reducible rfl)
        simp only [Act.put, List.setIfInBounds_toArray, List.set_cons_zero, List.set_cons_succ]
        refine take_ (i := 8) (v := ?_) 24 rfl rfl (by kernel_rfl) (by kernel_rfl) (by kernel_rfl) (fun _ _ _ h => h) (Or.inl ⟨by rfl, ?_⟩) (by assumption) ?_
        rotate_left
        · (intro wS hSw; (try dsimp only at hSw); go_simp; try with_reducible rfl)
        simp only [Act.put, List.setIfInBounds_toArray, List.set_cons_zero, List.set_cons_succ]
        refine one_ (i := 9) _ (by kernel_rfl) rfl (fun K hK => ?_)
        go_simp
        refine LA.out.mono ?_
        rintro e w3 ⟨rfl, q, rfl⟩
        go_wp2_with fail
        refine hK.out _ _ c1 (fun hHeld => ?_)
        clear hK K
        refine one_ (i := 10) _ (by kernel_rfl) rfl (fun K hK => ?_)
        go_simp
        refine (TR (1 + q)).out.mono ?_
        rintro e w4 ⟨rfl, ht⟩
        dsimp only at ht
        obtain ⟨G4, F4, hp4, hm4⟩ := (H2.out.drewN (1 + q)).logged ht h3.2.1
        have z1 : w4.cell? ⟨P2.p, 1, none⟩ = some (.pointer (some ⟨P2.lb, 0, none⟩)) := hp4.held.cell 1
        rw [HP.out] at z1
        have e00 : (P2.dead || decide ((10 : Int) = 10)) = true := by simp
        have HD := (heed_any w4 _ tx 10 hp4).mono fun e w' (h9 : e = .returned (.int .i64 10) ∧ w' = w4.setCell ⟨P2.p, 5, none⟩ (.bool (P2.dead || decide ((10 : Int) = 10)))) => (⟨h9.1, by rw [h9.2, e00, HP.out]⟩ : e = .returned (.int .i64 10) ∧ w' = w4.setCell ⟨P.p, 5, none⟩ (.bool true))
        have M5 := hp4.marked true
        have G5 : Died w (w4.setCell ⟨P2.p, 5, none⟩ (.bool true)) P tx C := by
          refine ⟨_, M5.1, ((M2.out.1.under (punder_drewN _ (1 + q))).trans hm4).trans M5.2, rfl, h3.1, fun e => h2 (M2.out.2.1 e), fun kp => ?_, h3.2.2.2⟩
          have h9 := h3.2.2.1 kp
          rw [M2.out.1.n, M2.out.1.reg] at h9
          exact h9
        rw [HP.out] at G5
        have HD : Hid (Calls Tryz.prog 49 #[.pointer (some ⟨P.p, 0, none⟩), .int .i64 10] w4 fun e w' => e = .returned (.int .i64 10) ∧ w' = w4.setCell ⟨P.p, 5, none⟩ (.bool true)) := by
          rw [← HP.out] at HD ⊢
          exact Lib.hid HD
        have G5 := Lib.hid G5
        clear ht hp4 hm4 M5 e00 h2 h3 TR LA H2 I2
        go_wp2_with fail
        refine hK.out _ _ z1 (fun hHeld => ?_)
        clear hK K
        refine one_ (i := 11) _ (by kernel_rfl) rfl (fun K hK => ?_)
        go_simp
        refine HD.out.mono ?_
        rintro e w5 ⟨rfl, rfl⟩
        go_wp2_with fail
        refine hK.out _ _ ((World.cell?_setCell_other _ _ _ _ (fun e => by injection e; omega)).trans z1) (fun hHeld => ?_)
        clear hK K
        refine take_ (i := 12) (v := ?_) 5 rfl rfl (by kernel_rfl) (by kernel_rfl) (by kernel_rfl) (fun _ _ _ h => h) (Or.inl ⟨by rfl, ?_⟩) (by assumption) ?_
        rotate_left
        · (intro wS hSw; (try dsimp only at hSw); go_simp; try with_reducible rfl)
        simp only [Act.put, List.setIfInBounds_toArray, List.set_cons_zero, List.set_cons_succ]
        refine wpAnyH_done (by kernel_rfl) ?_ _
        refine NoPanic.normal ?_
        clear z1 HD hHeld c1
        go_wp2_with fail
        go_ret
        exact .inr ⟨rfl, G5.out⟩
    · have HD : Hid (Died w w2 P tx C) := hd.before M1.out.1 M1.out.2.1.1
      clear hd HM
      go_wp2_with fail
      go_ret
      exact .inr ⟨rfl, HD.out⟩
  · have HD := Lib.hid hd
    clear hd SY
    go_wp2_with fail
    go_ret
    exact .inr ⟨rfl, HD.out⟩
end Go.Proofs.YtkajneeihhobhaaGreat

namespace Go.Proofs.YtkajneeihhobhaaGreat
open Go.RowKit Go.Maps Wal Pgr

set_option maxRecDepth 100000 in
set_option maxHeartbeats 1600000 in
theorem fits_any (w : World) (P : PS) (tx : Value) (C : List Com) (g : Com) (A : Option Addr) (n c : Nat) (l : List ByteArray) (h : PagAt w P tx) (hi : PInv P C) (hl : Strs w A n l) (htx : txts l = rows P.N g) (hn : n = (dirt P.N g).length) (hg : Fine P.N g) :
    Calls Tryz.prog 45 #[.pointer (some ⟨P.p, 0, none⟩), .slice A n c] w fun e w' => e = .returned (.bool (decide (n ≤ 1024) && decide (need (rows P.N g) ≤ P.s.ring))) ∧ ∃ q, w' = w.drewN q := by
  have hmost := h.most
  have hd4 := dirt_le P.N g
  have hn4 : n ≤ 4096 := by omega
  have c2 : w.cell? ⟨P.p, 2, none⟩ = some (.int .i64 (P.reg : Int)) := h.held.cell 2
  have hbody := rows_body hg
  have hneed := rows_need hg
  have NA : ∀ q, Hid (Calls Tryz.prog 65 #[.slice A n c] (w.drewN q) fun e w' => e = .returned (.int .i64 (need (rows P.N g) : Nat)) ∧ w' = w.drewN q) := fun q => by
    have h9 := need_any (w.drewN q) A n c l (by omega) (hl.drewN q) (by rw [htx, hbody]; omega)
    rw [htx] at h9
    exact Lib.hid (h9.mono fun _ _ ⟨h1, h2⟩ => ⟨h1, h2.symm⟩)
  obtain ⟨x, hx⟩ : ∃ x, x = need (rows P.N g) := ⟨_, rfl⟩
  rw [← hx] at NA ⊢
  have hx4 : x ≤ 5000 := by rw [hx, hneed]; omega
  have hrg := hi.reg
  obtain ⟨r, hr⟩ : ∃ r, r = P.s.ring := ⟨_, rfl⟩
  rw [← hr] at hrg ⊢
  have e1 : IntKind.i64.wrap ((P.reg : Int) - 1) = (r : Int) := by rw [IntKind.wrap_i64]; omega
  have hn5 : (n : Int) ≤ 4096 := by omega
  have hx5 : (x : Int) ≤ 5000 := by omega
  have hr5 : (r : Int) ≤ 4096 := by omega
  clear h hi hl htx hn hg hbody hneed hx hr hd4 hrg
  by_cases h1 : n ≤ 1024
  · have hd : decide ((n : Int) ≤ 1024) = true := decide_eq_true (by omega)
    have hd2 : decide (n ≤ 1024) = true := decide_eq_true h1
    by_cases h2 : x ≤ r
    · have hd3 : decide (x ≤ r) = true := decide_eq_true h2
      rw [hd2, hd3]
      clear hd2 h1 h2
      go_enter Tryz.func45, Tryz.ntmps45
      go_wp2_with fail
      go_quiet ((go_at_call 65; exact Calls.quiet_of_same (NA _).out))
      go_wp2_with fail
      go_ret
      exact ⟨rfl, _, rfl⟩
    · have hd3 : decide (x ≤ r) = false := decide_eq_false h2
      rw [hd2, hd3]
      clear hd2 h1 h2
      go_enter Tryz.func45, Tryz.ntmps45
      go_wp2_with fail
      go_quiet ((go_at_call 65; exact Calls.quiet_of_same (NA _).out))
      go_wp2_with fail
      go_ret
      exact ⟨rfl, _, rfl⟩
  · have hd : decide ((n : Int) ≤ 1024) = false := decide_eq_false (by omega)
    have hd2 : decide (n ≤ 1024) = false := decide_eq_false h1
    rw [hd2]
    clear hd2 h1
    go_enter Tryz.func45, Tryz.ntmps45
    go_wp2_with fail
    go_quiet ((go_at_call 65; exact Calls.quiet_of_same (NA _).out))
    go_wp2_with fail
    go_ret
    exact ⟨rfl, _, rfl⟩

def CommRes (w : World) (P : PS) (tx : Value) (C : List Com) (g : Com) (e : Ending) (w' : World) : Prop :=
  (e = .returned (.tuple #[.int .i64 ((C.length : Int) + 1), .int .i64 0]) ∧ Went w w' P tx fun P' => PInv { P' with f := fun b => (g b).or (P'.f b) } (C ++ [g])) ∨
  (e = .returned (.tuple #[.int .i64 0, .int .i64 10]) ∧ Died w w' P tx C)
set_option maxRecDepth 100000 in
set_option maxHeartbeats 6400000 in
theorem commit_any (w : World) (P : PS) (tx : Value) (C : List Com) (g : Com) (A : Option Addr) (n c : Nat) (l : List ByteArray) (h : PagAt w P tx) (hi : PInv P C) (hl : Strs w A n l) (htx : txts l = rows P.N g) (hn : n = (dirt P.N g).length) (hg : Fine P.N g)
    (hgd : Wal.good (rows P.N g) = true) (hnd : need (rows P.N g) ≤ P.s.ring) (hA : ∀ x, A = some x → x.block ∉ P.foot ∧ x.block < w.heap.size) (hC : C.length < 1152921504606846976) (hf : -1 ≤ P.m.fuel) :
    Calls Tryz.prog 46 #[.pointer (some ⟨P.p, 0, none⟩), .slice A n c] w (CommRes w P tx C g) := by
  have hmost := h.most
  have hd4 := dirt_le P.N g
  have hn4 : n ≤ 4096 := by omega
  have c1 : w.cell? ⟨P.p, 1, none⟩ = some (.pointer (some ⟨P.lb, 0, none⟩)) := h.held.cell 1
  have hbody := rows_body hg
  have hneed := rows_need hg
  have NA : ∀ q, Hid (Calls Tryz.prog 65 #[.slice A n c] (w.drewN q) fun e w' => e = .returned (.int .i64 (need (rows P.N g) : Nat)) ∧ w' = w.drewN q) := fun q => by
    have h9 := need_any (w.drewN q) A n c l (by omega) (hl.drewN q) (by rw [htx, hbody]; omega)
    rw [htx] at h9
    exact Lib.hid (h9.mono fun _ _ ⟨h1, h2⟩ => ⟨h1, h2.symm⟩)
  obtain ⟨vn, hlg, _⟩ := h.log.log
  have RA : ∀ q, Hid (Calls Tryz.prog 66 #[.pointer (some ⟨P.lb, 0, none⟩)] (w.drewN q) fun e w' => e = .returned (.int .i64 P.s.room) ∧ ∃ k, w' = (w.drewN q).drewN k) := fun q =>
    Lib.hid (room_any (w.drewN q) P.lb P.d vn P.s (hlg.only ((Only.refl [] w).drewN q) (fun _ _ hx => by cases hx)) (by have := hi.inv.ok.needs; have := hi.inv.ok.ring; omega) (by have := hi.inv.ok.count; omega) (by have := hi.inv.ok.ring; omega))
  have HG : Hid (Fine P.N g ∧ Wal.good (rows P.N g) = true ∧ need (rows P.N g) ≤ P.s.ring) := ⟨hg, hgd, hnd⟩
  have TX := Lib.hid htx
  have H0 := Lib.hid h
  have I0 := Lib.hid hi
  have HC : Hid (C.length < 1152921504606846976 ∧ -1 ≤ P.m.fuel) := ⟨hC, hf⟩
  have ST := Lib.hid hl
  have HA := Lib.hid hA
  have hring := hi.inv.ok.ring
  have hsum := hi.inv.ok.needs
  obtain ⟨R, hR⟩ : ∃ R, R = P.s.room := ⟨_, rfl⟩
  obtain ⟨x, hx⟩ : ∃ x, x = need (rows P.N g) := ⟨_, rfl⟩
  have HR : Hid (R = P.s.room ∧ x = need (rows P.N g)) := ⟨hR, hx⟩
  have hR1 : R ≤ 4096 := by rw [hR]; unfold LS.room; omega
  have hR2 : 0 ≤ R := by rw [hR]; unfold LS.room; omega
  have hx4 : (x : Int) ≤ 5000 := by rw [hx, hneed]; omega
  rw [← hx] at NA
  rw [← hR] at RA
  clear h hi hl htx hg hgd hnd hA hC hf hbody hneed hlg hring hsum hR hx hn hd4
  by_cases hgt : R < (x : Int)
  · have hd : decide (R < (x : Int)) = true := decide_eq_true hgt
    have hfi : P.s.first ≤ C.length := by
      have h1 := I0.out.count
      have h2 : P.s.needs ≠ [] := fun e => by
        have h3 : P.s.room = P.s.ring := by unfold LS.room; rw [e]; simp
        have := HR.out.1
        have := HR.out.2
        have := HG.out.2.2
        omega
      have h4 := I0.out.inv.needs
      rcases Nat.lt_or_ge C.length P.s.first with h5 | h5
      · exfalso
        apply h2
        rw [h4, List.map_eq_nil_iff, List.map_eq_nil_iff, List.drop_eq_nil_iff]
        omega
      · exact h5
    have MK : ∀ q, Hid (Calls Tryz.prog 67 #[.pointer (some ⟨P.p, 0, none⟩)] (w.drewN q) (RoomRes (w.drewN q) P tx C)) := fun q => Lib.hid (mkroom_any (w.drewN q) P tx C (H0.out.drewN q) I0.out hfi HC.out.1 HC.out.2)
    clear hfi
    go_enter Tryz.func46, Tryz.ntmps46
    go_wp2_with fail
    go_quiet (first | (go_at_call 65; exact Calls.quiet_of_same (NA _).out) | (go_at_call 66; exact Calls.quiet_of (RA _).out))
    clear NA RA c1
    go_wp2_with fail
    refine (MK nq).out.mono ?_
    rintro e w1 hres
    rcases hres with ⟨rfl, P1, hp1, hm1, hf1, hi1, hn1⟩ | ⟨rfl, hdd⟩
    · have H1 := Lib.hid hp1
      have I1 := Lib.hid hi1
      have MV1 : Hid (Moved w w1 P P1 ∧ Fuels P.m P1.m) := ⟨((Moved.refl w P).under (punder_drewN w nq)).trans hm1, hf1⟩
      have HP1 : Hid (P1.p = P.p) := hm1.p
      have HN1 : Hid (P1.N = P.N) := hm1.n
      have TX1 : Hid (txts l = rows P1.N g) := by show _ = _; rw [HN1.out]; exact TX.out
      have ST1 : Hid (Strs w1 A n l) := Strs.only hm1.only (ST.out.drewN nq) (fun _ x hx => (HA.out x hx).1)
      have HA1 : Hid (0 < n → ∀ x, A = some x → x.block ∉ P1.G ++ P1.F) := fun _ x hx hm => by
        rcases Grown.append hm1.gG hm1.gF _ hm with h1 | h1
        · exact (HA.out x hx).1 (pmem_foot.2 (.inr (.inr h1)))
        · have h2 := (HA.out x hx).2
          have h3 : w.heap.size ≤ x.block := h1
          omega
      have RM1 : Hid ((need (rows P.N g) : Int) ≤ P1.s.room) := by
        show (need (rows P.N g) : Int) ≤ P1.s.room
        have h1 := hi1.reg
        have h2 := I0.out.reg
        have h3 := hm1.reg
        have h4 := HG.out.2.2
        unfold LS.room
        rw [hn1]
        simp only [List.sum_nil]
        omega
      have HF1 : Hid (-1 ≤ P1.m.fuel) := hf1.2 HC.out.2
      clear hp1 hi1 hm1 hf1 hn1 MK
      have c1 : w1.cell? ⟨P.p, 1, none⟩ = some (.pointer (some ⟨P1.lb, 0, none⟩)) := by
        have h9 := H1.out.held.cell 1
        rw [HP1.out] at h9
        exact h9
      have AP := Lib.hid (append_any w1 P1.lb P1.d P1.s P1.G P1.F P1.m A n c l H1.out.log I1.out.inv.ok ST1.out (by omega) HA1.out (by have := I1.out.waits; omega))
      have TC := I1.out.append (g := g) (by rw [HN1.out]; exact HG.out.1) (by rw [HN1.out]; exact HG.out.2.1) (by rw [HN1.out]; exact RM1.out) (HF1.out)
      rw [← TX1.out] at TC
      obtain ⟨o, ho⟩ : ∃ o, o = appendO P1.s P1.m (txts l) := ⟨_, rfl⟩
      rw [← ho] at AP TC
      clear ho
      rcases TC with ⟨s', m', rfl, hi3, h4, h5, h6⟩ | ⟨m', rfl, h2, h3⟩
      · go_wp2_with fail
        refine AP.out.mono ?_
        rintro e w4 ⟨rfl, ht⟩
        dsimp only at ht
        obtain ⟨G4, F4, hp4, hm4⟩ := H1.out.logged ht h6
        have e00 : (P1.dead || decide ((0 : Int) = 10)) = false := by rw [I1.out.alive]; rfl
        have HD := (heed_any w4 _ tx 0 hp4).mono fun e w' (h9 : e = .returned (.int .i64 0) ∧ w' = w4.setCell ⟨P1.p, 5, none⟩ (.bool (P1.dead || decide ((0 : Int) = 10)))) => (⟨h9.1, by rw [h9.2, e00, HP1.out]⟩ : e = .returned (.int .i64 0) ∧ w' = w4.setCell ⟨P.p, 5, none⟩ (.bool false))
        have HD : Hid (Calls Tryz.prog 49 #[.pointer (some ⟨P.p, 0, none⟩), .int .i64 0] w4 fun e w' => e = .returned (.int .i64 0) ∧ w' = w4.setCell ⟨P.p, 5, none⟩ (.bool false)) := by
          have h9 : Calls Tryz.prog 49 #[.pointer (some ⟨P1.p, 0, none⟩), .int .i64 0] w4 fun e w' => e = .returned (.int .i64 0) ∧ w' = w4.setCell ⟨P.p, 5, none⟩ (.bool false) := HD
          rw [HP1.out] at h9
          exact Lib.hid h9
        have M5 := hp4.marked false
        rw [PS.alive_same (by exact I1.out.alive)] at M5
        have G5 : Went w (w4.setCell ⟨P1.p, 5, none⟩ (.bool false)) P tx fun P' => PInv { P' with f := fun b => (g b).or (P'.f b) } (C ++ [g]) := by
          refine ⟨_, M5.1, (MV1.out.1.trans hm4).trans M5.2, MV1.out.2.trans h4, ?_⟩
          exact ⟨hi3.inv, hi3.frm, hi3.reg, hi3.fi, hi3.fine, hi3.clear, hi3.home, hi3.away, hi3.wait, hi3.alive⟩
        rw [HP1.out] at G5
        have G5 := Lib.hid G5
        clear ht hp4 hm4 M5 e00 hi3 h4 h5 h6 AP H1 I1 MV1 ST1 HA1 RM1 HF1 c1
        go_wp2_with fail
        refine HD.out.mono ?_
        rintro e w5 ⟨rfl, rfl⟩
        go_wp2_with fail
        go_ret2
        exact .inl ⟨rfl, G5.out⟩
      · go_wp2_with fail
        refine AP.out.mono ?_
        rintro e w4 ⟨rfl, ht⟩
        dsimp only at ht
        obtain ⟨G4, F4, hp4, hm4⟩ := H1.out.logged ht h3.2.1
        have e00 : (P1.dead || decide ((10 : Int) = 10)) = true := by simp
        have HD := (heed_any w4 _ tx 10 hp4).mono fun e w' (h9 : e = .returned (.int .i64 10) ∧ w' = w4.setCell ⟨P1.p, 5, none⟩ (.bool (P1.dead || decide ((10 : Int) = 10)))) => (⟨h9.1, by rw [h9.2, e00, HP1.out]⟩ : e = .returned (.int .i64 10) ∧ w' = w4.setCell ⟨P.p, 5, none⟩ (.bool true))
        have HD : Hid (Calls Tryz.prog 49 #[.pointer (some ⟨P.p, 0, none⟩), .int .i64 10] w4 fun e w' => e = .returned (.int .i64 10) ∧ w' = w4.setCell ⟨P.p, 5, none⟩ (.bool true)) := by
          have h9 : Calls Tryz.prog 49 #[.pointer (some ⟨P1.p, 0, none⟩), .int .i64 10] w4 fun e w' => e = .returned (.int .i64 10) ∧ w' = w4.setCell ⟨P.p, 5, none⟩ (.bool true) := HD
          rw [HP1.out] at h9
          exact Lib.hid h9
        have M5 := hp4.marked true
        have G5 : Died w (w4.setCell ⟨P1.p, 5, none⟩ (.bool true)) P tx C := by
          refine ⟨_, M5.1, (MV1.out.1.trans hm4).trans M5.2, rfl, h3.1, fun e => h2 (MV1.out.2.1 e), fun kp => ?_, h3.2.2.2⟩
          have h9 := h3.2.2.1 kp
          rw [MV1.out.1.n, MV1.out.1.reg] at h9
          exact h9
        rw [HP1.out] at G5
        have G5 := Lib.hid G5
        clear ht hp4 hm4 M5 e00 h2 h3 AP H1 I1 MV1 ST1 HA1 RM1 HF1 c1
        go_wp2_with fail
        refine HD.out.mono ?_
        rintro e w5 ⟨rfl, rfl⟩
        go_wp2_with fail
        go_ret2
        exact .inr ⟨rfl, G5.out⟩
    · have HD : Hid (Died w w1 P tx C) := hdd.before ((Moved.refl w P).under (punder_drewN w nq)) id
      clear hdd MK
      go_wp2_with fail
      go_ret2
      exact .inr ⟨rfl, HD.out⟩
  · have hd : decide (R < (x : Int)) = false := decide_eq_false hgt
    go_enter Tryz.func46, Tryz.ntmps46
    go_wp2_with fail
    go_quiet (first | (go_at_call 65; exact Calls.quiet_of_same (NA _).out) | (go_at_call 66; exact Calls.quiet_of (RA _).out))
    clear NA RA c1
    obtain ⟨w1, hw1⟩ : ∃ w1, w1 = w.drewN nq := ⟨_, rfl⟩
    have H1 : Hid (PagAt w1 P tx) := by rw [hw1]; exact H0.out.drewN nq
    have I1 := I0
    have MV1 : Hid (Moved w w1 P P ∧ Fuels P.m P.m) := ⟨by rw [hw1]; exact (Moved.refl w P).under (punder_drewN w nq), Fuels.refl _⟩
    have HP1 : Hid (P.p = P.p) := rfl
    have HN1 : Hid (P.N = P.N) := rfl
    have TX1 := TX
    have ST1 : Hid (Strs w1 A n l) := by rw [hw1]; exact ST.out.drewN nq
    have HA1 : Hid (0 < n → ∀ x, A = some x → x.block ∉ P.G ++ P.F) := fun _ x hx hm => (HA.out x hx).1 (pmem_foot.2 (.inr (.inr hm)))
    have RM1 : Hid ((need (rows P.N g) : Int) ≤ P.s.room) := by
      show (need (rows P.N g) : Int) ≤ P.s.room
      have := HR.out.1
      have := HR.out.2
      omega
    have HF1 : Hid (-1 ≤ P.m.fuel) := HC.out.2
    rw [← hw1]
    clear hw1
    have c1 : w1.cell? ⟨P.p, 1, none⟩ = some (.pointer (some ⟨P.lb, 0, none⟩)) := by
      have h9 := H1.out.held.cell 1
      exact h9
    have AP := Lib.hid (append_any w1 P.lb P.d P.s P.G P.F P.m A n c l H1.out.log I1.out.inv.ok ST1.out (by omega) HA1.out (by have := I1.out.waits; omega))
    have TC := I1.out.append (g := g) (by rw [HN1.out]; exact HG.out.1) (by rw [HN1.out]; exact HG.out.2.1) (by rw [HN1.out]; exact RM1.out) (HF1.out)
    rw [← TX1.out] at TC
    obtain ⟨o, ho⟩ : ∃ o, o = appendO P.s P.m (txts l) := ⟨_, rfl⟩
    rw [← ho] at AP TC
    clear ho
    rcases TC with ⟨s', m', rfl, hi3, h4, h5, h6⟩ | ⟨m', rfl, h2, h3⟩
    · go_wp2_with fail
      refine AP.out.mono ?_
      rintro e w4 ⟨rfl, ht⟩
      dsimp only at ht
      obtain ⟨G4, F4, hp4, hm4⟩ := H1.out.logged ht h6
      have e00 : (P.dead || decide ((0 : Int) = 10)) = false := by rw [I1.out.alive]; rfl
      have HD := (heed_any w4 _ tx 0 hp4).mono fun e w' (h9 : e = .returned (.int .i64 0) ∧ w' = w4.setCell ⟨P.p, 5, none⟩ (.bool (P.dead || decide ((0 : Int) = 10)))) => (⟨h9.1, by rw [h9.2, e00]⟩ : e = .returned (.int .i64 0) ∧ w' = w4.setCell ⟨P.p, 5, none⟩ (.bool false))
      have HD : Hid (Calls Tryz.prog 49 #[.pointer (some ⟨P.p, 0, none⟩), .int .i64 0] w4 fun e w' => e = .returned (.int .i64 0) ∧ w' = w4.setCell ⟨P.p, 5, none⟩ (.bool false)) := by
        have h9 : Calls Tryz.prog 49 #[.pointer (some ⟨P.p, 0, none⟩), .int .i64 0] w4 fun e w' => e = .returned (.int .i64 0) ∧ w' = w4.setCell ⟨P.p, 5, none⟩ (.bool false) := HD
        exact Lib.hid h9
      have M5 := hp4.marked false
      rw [PS.alive_same (by exact I1.out.alive)] at M5
      have G5 : Went w (w4.setCell ⟨P.p, 5, none⟩ (.bool false)) P tx fun P' => PInv { P' with f := fun b => (g b).or (P'.f b) } (C ++ [g]) := by
        refine ⟨_, M5.1, (MV1.out.1.trans hm4).trans M5.2, MV1.out.2.trans h4, ?_⟩
        exact ⟨hi3.inv, hi3.frm, hi3.reg, hi3.fi, hi3.fine, hi3.clear, hi3.home, hi3.away, hi3.wait, hi3.alive⟩
      have G5 := Lib.hid G5
      clear ht hp4 hm4 M5 e00 hi3 h4 h5 h6 AP H1 I1 MV1 ST1 HA1 RM1 HF1 c1
      go_wp2_with fail
      refine HD.out.mono ?_
      rintro e w5 ⟨rfl, rfl⟩
      go_wp2_with fail
      go_ret2
      exact .inl ⟨rfl, G5.out⟩
    · go_wp2_with fail
      refine AP.out.mono ?_
      rintro e w4 ⟨rfl, ht⟩
      dsimp only at ht
      obtain ⟨G4, F4, hp4, hm4⟩ := H1.out.logged ht h3.2.1
      have e00 : (P.dead || decide ((10 : Int) = 10)) = true := by simp
      have HD := (heed_any w4 _ tx 10 hp4).mono fun e w' (h9 : e = .returned (.int .i64 10) ∧ w' = w4.setCell ⟨P.p, 5, none⟩ (.bool (P.dead || decide ((10 : Int) = 10)))) => (⟨h9.1, by rw [h9.2, e00]⟩ : e = .returned (.int .i64 10) ∧ w' = w4.setCell ⟨P.p, 5, none⟩ (.bool true))
      have HD : Hid (Calls Tryz.prog 49 #[.pointer (some ⟨P.p, 0, none⟩), .int .i64 10] w4 fun e w' => e = .returned (.int .i64 10) ∧ w' = w4.setCell ⟨P.p, 5, none⟩ (.bool true)) := by
        have h9 : Calls Tryz.prog 49 #[.pointer (some ⟨P.p, 0, none⟩), .int .i64 10] w4 fun e w' => e = .returned (.int .i64 10) ∧ w' = w4.setCell ⟨P.p, 5, none⟩ (.bool true) := HD
        exact Lib.hid h9
      have M5 := hp4.marked true
      have G5 : Died w (w4.setCell ⟨P.p, 5, none⟩ (.bool true)) P tx C := by
        refine ⟨_, M5.1, (MV1.out.1.trans hm4).trans M5.2, rfl, h3.1, fun e => h2 (MV1.out.2.1 e), fun kp => ?_, h3.2.2.2⟩
        have h9 := h3.2.2.1 kp
        rw [MV1.out.1.n, MV1.out.1.reg] at h9
        exact h9
      have G5 := Lib.hid G5
      clear ht hp4 hm4 M5 e00 h2 h3 AP H1 I1 MV1 ST1 HA1 RM1 HF1 c1
      go_wp2_with fail
      refine HD.out.mono ?_
      rintro e w5 ⟨rfl, rfl⟩
      go_wp2_with fail
      go_ret2
      exact .inr ⟨rfl, G5.out⟩
end Go.Proofs.YtkajneeihhobhaaGreat

namespace Go.Proofs.YtkajneeihhobhaaGreat
open Go.RowKit Go.Maps Wal Pgr

/-- P' is the pager P, further on, behind a call on its transaction at t. -/
structure TMoved (w w' : World) (t : Nat) (P P' : PS) : Prop where
  p : P'.p = P.p
  d : P'.d = P.d
  lb : P'.lb = P.lb
  am : P'.am = P.am
  reg : P'.reg = P.reg
  n : P'.N = P.N
  only : Only (t :: P.foot) w w'
  foot : ∀ x ∈ P'.foot, x ∈ P.foot ∨ w.heap.size ≤ x
  len : P'.m.dur.length = P.m.dur.length
section
variable {w w' w1 w2 : World} {P P' P1 P2 : PS} {tx : Value} {t tm : Nat} {g : Nat → Option (List Nat)} {C : List Com}
theorem Moved.by_ (h : Moved w w' P P') (t : Nat) : TMoved w w' t P P' := ⟨h.p, h.d, h.lb, h.am, h.reg, h.n, h.only.mono (fun _ hx => .inl (List.mem_cons_of_mem _ hx)), h.foot, h.len⟩
theorem TMoved.trans (h : TMoved w w1 t P P1) (k : TMoved w1 w2 t P1 P2) : TMoved w w2 t P P2 :=
  ⟨k.p.trans h.p, k.d.trans h.d, k.lb.trans h.lb, k.am.trans h.am, k.reg.trans h.reg, k.n.trans h.n, h.only.trans k.only (fun x hx => by
    rcases List.mem_cons.1 hx with rfl | hx
    · exact .inl List.mem_cons_self
    · rcases h.foot x hx with h1 | h1
      · exact .inl (List.mem_cons_of_mem _ h1)
      · exact .inr h1), fun x hx => by
    rcases k.foot x hx with h1 | h1
    · exact h.foot x h1
    · exact .inr (Nat.le_trans h.only.size h1), k.len.trans h.len⟩
theorem ended_moved (h : Only [P.p, t] w w') : TMoved w w' t P P := ⟨rfl, rfl, rfl, rfl, rfl, rfl, h.mono (fun x hx => by
  simp only [List.mem_cons, List.not_mem_nil, or_false] at hx
  rcases hx with rfl | rfl
  · exact .inl (List.mem_cons_of_mem _ (pmem_foot.2 (.inl rfl)))
  · exact .inl List.mem_cons_self), fun _ hx => .inl hx, rfl⟩
end
/-- A transaction has ended: the commits C are there. -/
def Over (w w' : World) (P : PS) (t : Nat) (C : List Com) : Prop := ∃ P', PagAt w' P' (.pointer none) ∧ TMoved w w' t P P' ∧ Fuels P.m P'.m ∧ PInv P' C ∧ TxEnd w' P' t
theorem Over.before {w w1 w2 : World} {P P1 : PS} {t : Nat} {C : List Com} (h : Over w1 w2 P1 t C) (k : TMoved w w1 t P P1) (hf : Fuels P.m P1.m) : Over w w2 P t C := by
  obtain ⟨P', h1, h2, h3, h4, h5⟩ := h
  exact ⟨P', h1, k.trans h2, hf.trans h3, h4, h5⟩
/-- The log can take what a transaction has written. -/
def fitB (P : PS) (g : Com) : Bool := decide ((dirt P.N g).length ≤ 1024) && decide (need (rows P.N g) ≤ P.reg - 1)
structure TComRes (w : World) (P : PS) (t tm : Nat) (C : List Com) (g : Com) (e : Ending) (w' : World) : Prop where
  none_ : (dirt P.N g).length = 0 → e = .returned (.tuple #[.int .i64 (C.length : Nat), .int .i64 0]) ∧ Over w w' P t C
  big : (dirt P.N g).length ≠ 0 → fitB P g = false → e = .returned (.tuple #[.int .i64 0, .int .i64 13]) ∧ Over w w' P t C
  some_ : (dirt P.N g).length ≠ 0 → fitB P g = true → (e = .returned (.tuple #[.int .i64 ((C.length : Int) + 1), .int .i64 0]) ∧ Over w w' P t (C ++ [g])) ∨
    (e = .returned (.tuple #[.int .i64 0, .int .i64 10]) ∧ Died w w' P (.pointer (some ⟨t, 0, none⟩)) C)
set_option maxRecDepth 100000 in
set_option maxHeartbeats 6400000 in
theorem tcommit_any (w : World) (P : PS) (t tm : Nat) (C : List Com) (g : Com) (h : PagAt w P (.pointer (some ⟨t, 0, none⟩))) (k : TxAt w P t tm g) (hi : PInv P C) (hC : C.length < 1152921504606846976) (hf : -1 ≤ P.m.fuel) :
    Calls Tryz.prog 16 #[.pointer (some ⟨t, 0, none⟩)] w (TComRes w P t tm C g) := by
  have TA := Lib.hid (talive_any w P t tm g h k)
  rw [hi.alive, hi.inv.alive] at TA
  have M1 := h.marked false
  rw [PS.alive_same hi.alive] at M1
  have K1 : Hid (TxAt (w.setCell ⟨P.p, 5, none⟩ (.bool false)) P t tm g) := k.moved M1.2
  have H1 := Lib.hid M1
  have I := Lib.hid hi
  have HC : Hid (C.length < 1152921504606846976 ∧ -1 ≤ P.m.fuel) := ⟨hC, hf⟩
  have FI : Hid (Fine P.N g) := fun b l hb => k.dirty.blk hb
  obtain ⟨n, hn⟩ : ∃ n, n = (dirt P.N g).length := ⟨_, rfl⟩
  have hn4 : n ≤ 4096 := by have := dirt_le P.N g; have := h.most; omega
  have HN := Lib.hid hn
  clear h k hi M1 hC hf hn
  go_enter Tryz.func16, Tryz.ntmps16
  go_wp2_with fail
  refine TA.out.mono ?_
  rintro e w1 ⟨rfl, rfl⟩
  clear TA
  have ed : deadErr (false || false) = 0 := rfl
  rw [show (false || false) = false from rfl] at ed ⊢
  rw [ed]
  generalize w.setCell ⟨P.p, 5, none⟩ (.bool false) = w1 at *
  have t0 : w1.cell? ⟨t, 0, none⟩ = some (.pointer (some ⟨P.p, 0, none⟩)) := K1.out.held.cell 0
  have t1 : w1.cell? ⟨t, 1, none⟩ = some (.map (some tm)) := K1.out.held.cell 1
  have ln := fun ty => K1.out.dirty.len ty
  simp only [← HN.out] at ln
  by_cases h0 : n = 0
  · have EN := Lib.hid (end_any w1 P t tm g H1.out.1 K1.out)
    have Z := Lib.hid h0
    have hb : ((n : Int) == 0) = true := by rw [h0]; rfl
    clear h0
    go_wp2_with fail
    refine EN.out.mono ?_
    rintro e w2 ⟨rfl, hp2, hk2, ho2⟩
    have DN := Lib.hid (done_any w2 P (.pointer none) C hp2 I.out)
    have RES : ∀ q, Hid (Over w (w2.drewN q) P t C) := fun q => Lib.hid ⟨P, hp2.drewN q, ((H1.out.2.by_ t).trans (ended_moved ho2)).trans (((Moved.refl w2 P).under (punder_drewN w2 q)).by_ t), Fuels.refl _, I.out, ⟨hk2.held.drewN q, hk2.ne⟩⟩
    clear hp2 hk2 ho2 EN t0 t1 ln
    go_wp2_with fail
    refine DN.out.mono ?_
    rintro e w3 ⟨rfl, q, rfl⟩
    go_wp2_with fail
    go_ret2
    refine ⟨fun _ => ⟨rfl, (RES q).out⟩, fun h => absurd Z.out (by rw [HN.out]; exact h), fun h => absurd Z.out (by rw [HN.out]; exact h)⟩
  · have NZ := Lib.hid h0
    have hb : ((n : Int) == 0) = false := by
      have : (n : Int) ≠ 0 := by omega
      simpa using this
    have hn1 : 1 ≤ n := by omega
    have BA := Lib.hid (pbatch_any w1 P t tm g H1.out.1 K1.out)
    clear h0
    go_wp2_with fail
    refine BA.out.mono ?_
    rintro e w2 ⟨v, rfl, ⟨A, c, rfl, hst, hA⟩, hb2⟩
    rw [← HN.out] at hst ⊢
    have H2 := Lib.hid (H1.out.1.under hb2)
    have K2 := Lib.hid (K1.out.under hb2)
    have M2 := Lib.hid (H1.out.2.under hb2)
    have TX : Hid (txts ((rows P.N g).map strB) = rows P.N g) := by
      show _ = _
      unfold txts
      rw [List.map_map]
      conv => rhs; rw [← List.map_id (rows P.N g)]
      exact List.map_congr_left fun r hr => nums_strB (rows_mem FI.out r hr).2
    have ST := Lib.hid hst
    have AN : Hid (∀ x, A = some x → x.block ∉ P.foot ∧ x.block < w2.heap.size) := fun x hx => by
      have h1 := hA x hx
      refine ⟨fun hm => ?_, ?_⟩
      · have h2 := H1.out.1.lt
        rcases pmem_foot.1 hm with h3 | h3 | h3
        · omega
        · omega
        · have := h2.2.2 _ h3; omega
      · obtain ⟨b, off, e1, h2, _⟩ := hst.2.2 (by omega)
        rw [hx] at e1
        injection e1 with e1
        rw [e1]
        exact h2
    have FT := fits_any w2 P _ C g A n c _ H2.out I.out hst TX.out HN.out FI.out
    have ef : (decide (n ≤ 1024) && decide (need (rows P.N g) ≤ P.s.ring)) = fitB P g := by
      unfold fitB
      rw [HN.out, show P.s.ring = P.reg - 1 by have := I.out.reg; omega]
    rw [ef] at FT
    have FT := Lib.hid FT
    have EF := Lib.hid ef
    have t0 : w2.cell? ⟨t, 0, none⟩ = some (.pointer (some ⟨P.p, 0, none⟩)) := K2.out.held.cell 0
    clear hst hA hb2 BA t1 ln ef H1 K1
    cases hfb : fitB P g with
    | false =>
      rw [hfb] at FT
      have FB := Lib.hid hfb
      clear hfb
      go_wp2_with fail
      refine FT.out.mono ?_
      rintro e w3 ⟨rfl, q, hw3⟩
      have EN : Hid (Calls Tryz.prog 43 #[.pointer (some ⟨t, 0, none⟩)] w3 fun e w' => e = .returned (.tuple #[]) ∧ PagAt w' P (.pointer none) ∧ TxEnd w' P t ∧ Only [P.p, t] w3 w') := by rw [hw3]; exact end_any _ P t tm g (H2.out.drewN q) (K2.out.drewN q)
      have M3 : Hid (Moved w w3 P P) := by rw [hw3]; exact M2.out.under (punder_drewN w2 q)
      clear hw3 FT t0 H2 K2 M2
      go_wp2_with fail
      refine EN.out.mono ?_
      rintro e w4 ⟨rfl, hp4, hk4, ho4⟩
      have RES : Hid (Over w w4 P t C) := ⟨P, hp4, (M3.out.by_ t).trans (ended_moved ho4), Fuels.refl _, I.out, hk4⟩
      clear hp4 hk4 ho4 EN
      go_wp2_with fail
      go_ret2
      exact ⟨fun h => absurd (HN.out.trans h) NZ.out, fun _ _ => ⟨rfl, RES.out⟩, fun _ h => by rw [FB.out] at h; cases h⟩
    | true =>
      rw [hfb] at FT
      have FB := Lib.hid hfb
      clear hfb
      go_wp2_with fail
      refine FT.out.mono ?_
      rintro e w3 ⟨rfl, q, hw3⟩
      have FF : n ≤ 1024 ∧ need (rows P.N g) ≤ P.s.ring := by
        have h1 := EF.out
        rw [FB.out, Bool.and_eq_true, decide_eq_true_eq, decide_eq_true_eq] at h1
        exact h1
      have H3 : Hid (PagAt w3 P (.pointer (some ⟨t, 0, none⟩)) ∧ TxAt w3 P t tm g ∧ Moved w w3 P P) := by
        rw [hw3]
        exact ⟨H2.out.drewN q, K2.out.drewN q, M2.out.under (punder_drewN w2 q)⟩
      have CM := Lib.hid (commit_any w3 P _ C g A n c _ H3.out.1 I.out (by rw [hw3]; exact ST.out.drewN q) TX.out HN.out FI.out (rows_good FI.out (by rw [← HN.out]; exact hn1) (by rw [← HN.out]; exact FF.1)) FF.2 (by rw [hw3]; exact AN.out) HC.out.1 HC.out.2)
      clear hw3 FT t0 H2 K2 M2 FF ST AN TX
      go_wp2_with fail
      refine CM.out.mono ?_
      rintro e w4 hres
      rcases hres with ⟨rfl, P4, hp4, hm4, hf4, hi4⟩ | ⟨rfl, hdd⟩
      · have K4 := Lib.hid (H3.out.2.1.moved hm4)
        have H4 := Lib.hid hp4
        have HP4 : Hid (P4.p = P.p ∧ P4.N = P.N) := ⟨hm4.p, hm4.n⟩
        have M4 : Hid (Moved w w4 P P4 ∧ Fuels P.m P4.m) := ⟨H3.out.2.2.trans hm4, hf4⟩
        have I4 := Lib.hid hi4
        have x3 : w4.cell? ⟨P.p, 3, none⟩ = some (.map (some P4.am)) := by
          have h9 := hp4.held.cell 3
          rw [HP4.out.1] at h9
          exact h9
        have x1 : w4.cell? ⟨t, 1, none⟩ = some (.map (some tm)) := K4.out.held.cell 1
        have CP := Lib.hid (pcopy_any w4.drew P4.am tm P4.N P4.f g (hp4.drewN 1).away (K4.out.drewN 1).dirty (fun e => K4.out.ne.2.2.2.2 e.symm) (by have := hp4.most; omega))
        clear hp4 hm4 hf4 hi4 CM H3
        go_upto_region 15 with fail
        refine wp_region_noPanic ?_
        refine wp_region_held_drew (S := fun w' => w'.cell? ⟨P.p, 3, none⟩ = some (.map (some P4.am)) ∧ w'.cell? ⟨t, 1, none⟩ = some (.map (some tm))) (by kernel_rfl) ⟨x3, x1⟩ (fun hHeld => ?_)
        refine take_ (i := 0) (v := ?_) 45 rfl rfl (by kernel_rfl) (by kernel_rfl) (by kernel_rfl) (fun _ _ _ h => h) (Or.inl ⟨by rfl, ?_⟩) (by assumption) ?_
        rotate_left
        · (intro wS hSw; (try dsimp only at hSw); go_simp; try with_reducible rfl)
        simp only [Act.put, List.setIfInBounds_toArray, List.set_cons_zero, List.set_cons_succ]
        refine take_ (i := 1) (v := ?_) 46 rfl rfl (by kernel_rfl) (by kernel_rfl) (by kernel_rfl) (fun _ _ _ h => h) (Or.inl ⟨by rfl, ?_⟩) (by assumption) ?_
        rotate_left
        · (intro wS hSw; (try dsimp only at hSw); go_simp; try with_reducible rfl)
        simp only [Act.put, List.setIfInBounds_toArray, List.set_cons_zero, List.set_cons_succ]
        refine take_ (i := 2) (v := ?_) 47 rfl rfl (by kernel_rfl) (by kernel_rfl) (by kernel_rfl) (fun _ _ _ h => h) (Or.inl ⟨by rfl, ?_⟩) (by assumption) ?_
        rotate_left
        · (intro wS hSw; (try dsimp only at hSw); go_simp; try with_reducible rfl)
        simp only [Act.put, List.setIfInBounds_toArray, List.set_cons_zero, List.set_cons_succ]
        refine take_ (i := 3) (v := ?_) 48 rfl rfl (by kernel_rfl) (by kernel_rfl) (by kernel_rfl) (fun _ _ _ h => h) (Or.inl ⟨by rfl, ?_⟩) (by assumption) ?_
        rotate_left
        · (intro wS hSw; (try dsimp only at hSw); go_simp; try with_reducible rfl)
        simp only [Act.put, List.setIfInBounds_toArray, List.set_cons_zero, List.set_cons_succ]
        refine take_ (i := 4) (v := ?_) 49 rfl rfl (by kernel_rfl) (by kernel_rfl) (by kernel_rfl) (fun _ _ _ h => h) (Or.inl ⟨by rfl, ?_⟩) (by assumption) ?_
        rotate_left
        · (intro wS hSw; (try dsimp only at hSw); go_simp; try with_reducible rfl)
        simp only [Act.put, List.setIfInBounds_toArray, List.set_cons_zero, List.set_cons_succ]
        refine take_ (i := 5) (v := ?_) 50 rfl rfl (by kernel_rfl) (by kernel_rfl) (by kernel_rfl) (fun _ _ _ h => h) (Or.inl ⟨by rfl, ?_⟩) (by assumption) ?_
        rotate_left
        · (intro wS hSw; (try dsimp only at hSw); go_simp; try with_reducible rfl)
        simp only [Act.put, List.setIfInBounds_toArray, List.set_cons_zero, List.set_cons_succ]
        refine take_ (i := 6) (v := ?_) 51 rfl rfl (by kernel_rfl) (by kernel_rfl) (by kernel_rfl) (fun _ _ _ h => h) (Or.inl ⟨by rfl, ?_⟩) (by assumption) ?_
        rotate_left
        · (intro wS hSw; (try dsimp only at hSw); go_simp; try with_reducible rfl)
        simp only [Act.put, List.setIfInBounds_toArray, List.set_cons_zero, List.set_cons_succ]
        refine take_ (i := 7) (v := ?_) 52 rfl rfl (by kernel_rfl) (by kernel_rfl) (by kernel_rfl) (fun _ _ _ h => h) (Or.inl ⟨by rfl, ?_⟩) (by assumption) ?_
        rotate_left
        · (intro wS hSw; (try dsimp only at hSw); go_simp; try with_reducible rfl)
        simp only [Act.put, List.setIfInBounds_toArray, List.set_cons_zero, List.set_cons_succ]
        refine one_ (i := 8) _ (by kernel_rfl) rfl (fun K hK => ?_)
        go_simp
        refine CP.out.mono ?_
        rintro e w5 ⟨rfl, hM5, hO5⟩
        have x3' : w5.cell? ⟨P.p, 3, none⟩ = some (.map (some P4.am)) := (hO5.cell (p := ⟨P.p, 3, none⟩) (by have := H4.out.held.lt; rw [HP4.out.1] at this; exact this) (by have := H4.out.ne; rw [HP4.out.1] at this; simpa using this)).trans x3
        have x1' : w5.cell? ⟨t, 1, none⟩ = some (.map (some tm)) := (hO5.cell (p := ⟨t, 1, none⟩) K4.out.held.lt (by simpa using K4.out.ne.2.1)).trans x1
        have G5 := (H4.out.drewN 1).mapped hM5 hO5
        have K5 := (K4.out.drewN 1).moved G5.2
        have EN := Lib.hid (end_any w5 _ t tm g G5.1 K5)
        have M5 : Hid (Moved w w5 P { P4 with f := fun b => (g b).or (P4.f b) }) := (M4.out.1.under ((Below.refl _ _).drew)).trans G5.2
        clear hM5 hO5 G5 K5 CP H4 K4
        go_wp2_with fail
        refine hK.out _ _ ⟨x3', x1'⟩ (fun hHeld => ?_)
        clear hK K
        refine wpAnyH_done (by kernel_rfl) ?_ _
        refine NoPanic.normal ?_
        clear x3 x1 x3' x1' hHeld
        go_wp2_with fail
        refine EN.out.mono ?_
        rintro e w6 ⟨rfl, hp6, hk6, ho6⟩
        have RES : Hid (Over w w6 P t (C ++ [g])) := ⟨_, hp6, (M5.out.by_ t).trans (ended_moved ho6), M4.out.2, I4.out, hk6⟩
        clear hp6 hk6 ho6 EN M5 I4
        go_wp2_with fail
        go_ret2
        exact ⟨fun h => absurd (HN.out.trans h) NZ.out, fun _ h => (by rw [FB.out] at h; cases h), fun _ _ => .inl ⟨rfl, RES.out⟩⟩
      · have HD : Hid (Died w w4 P (.pointer (some ⟨t, 0, none⟩)) C) := hdd.before H3.out.2.2 id
        clear hdd CM
        go_wp2_with fail
        go_ret2
        exact ⟨fun h => absurd (HN.out.trans h) NZ.out, fun _ h => (by rw [FB.out] at h; cases h), fun _ _ => .inr ⟨rfl, HD.out⟩⟩
end Go.Proofs.YtkajneeihhobhaaGreat
