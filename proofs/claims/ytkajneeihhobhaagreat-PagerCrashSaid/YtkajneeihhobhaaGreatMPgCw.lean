/-
  PagerCrash: the law's walk.
-/
import Derived.Test.YtkajneeihhobhaaGreatMPgCr
namespace Go.Proofs.YtkajneeihhobhaaGreat.pagerCrash
open Go.ChangeShapes Go.WideShapes Go.ChangeAt Go.RowKit Pgr Wal

set_option maxRecDepth 100000 in
set_option maxHeartbeats 12800000 in
theorem walk (a b : Nat) (A : Option Addr) (n c : Nat) (l : List PLife) (w : World) (ha : a < 256) (hb : b < 256) (hl : PLives w A n l) (hn : n ≤ 9223372036854775807) :
    Calls Tryz.prog 6 #[.int .u8 (a : Int), .int .u8 (b : Int), .slice A n c] w fun e w' => e = .returned (.bool true) ∧ Below w.heap.size w w' := by
  have HL := Lib.hid hl
  have FX := fun w => Lib.hid (pfixed_any w)
  have SZ := fun w0 => size_any4 w0 a b ha hb
  obtain ⟨reg, hreg⟩ : ∃ reg, reg = 2 + b % 24 := ⟨_, rfl⟩
  obtain ⟨N, hN⟩ : ∃ N, N = 1 + a % 24 := ⟨_, rfl⟩
  rw [← hreg, ← hN] at SZ
  obtain ⟨M, hM⟩ : ∃ M, M = reg + N := ⟨_, rfl⟩
  rw [← hM] at SZ
  have SZ := fun w0 => Lib.hid (SZ w0)
  obtain ⟨rg, hrg⟩ : ∃ rg, rg = reg - 1 := ⟨_, rfl⟩
  have NR : Hid (2 ≤ reg ∧ reg ≤ 25 ∧ 1 ≤ N ∧ N ≤ 24 ∧ M = reg + N ∧ rg = reg - 1) := ⟨by omega, by omega, by omega, by omega, hM, hrg⟩
  have e1 : (M : Int) - (reg : Int) = (N : Int) := by omega
  have e2 : (reg : Int) - 1 = (rg : Int) := by omega
  have m1 : (M : Int) ≤ 49 := by omega
  have r1 : (reg : Int) ≤ 25 := by omega
  have r2 : (2 : Int) ≤ (reg : Int) := by omega
  have ni : (n : Int) ≤ 9223372036854775807 := by omega
  clear hl hn hreg hN hM hrg
  by_cases h8 : 8 < n
  · have h8' : (8 : Int) < (n : Int) := by omega
    go_enter Tryz.func6, Tryz.ntmps6
    go_wp2_with fail
    refine (FX _).out.mono ?_
    rintro e w1 ⟨rfl, hbel⟩
    have BF := Lib.hid hbel
    clear hbel
    go_wp2_with fail
    refine (FX _).out.mono ?_
    rintro e w2 ⟨rfl, hbel⟩
    have BG := Lib.hid (BF.out.trans (hbel.mono BF.out.size))
    clear hbel
    go_wp2_with fail
    go_ret
    exact ⟨rfl, BG.out⟩
  · have h8' : ¬ (8 : Int) < (n : Int) := by omega
    go_enter Tryz.func6, Tryz.ntmps6
    go_wp2_with fail
    refine (FX _).out.mono ?_
    rintro e w0 ⟨rfl, hb0⟩
    have B0 := Lib.hid hb0
    have SZ := SZ w0
    clear hb0 FX
    go_wp2_with fail
    refine SZ.out.mono ?_
    rintro e wz ⟨rfl, rfl⟩
    have ND := new_any w0 (M : Int)
    rw [clamp_small (by have := NR.out; omega) (by have := NR.out; omega)] at ND
    have ND := Lib.hid ND
    clear SZ
    go_wp2_with fail
    refine ND.out.mono ?_
    rintro e w1 ⟨d, F, rfl, hD, hb, hF⟩
    have MK := l_make w w1 d F M reg hD (B0.out.trans (hb.mono B0.out.size)) (fun y hy => Nat.le_trans B0.out.size (hF y hy)) (by have := NR.out; omega) (by have := NR.out; omega)
    rw [show M - reg = N by have := NR.out; omega] at MK
    have MK := Lib.hid MK
    clear ND hD hb hF B0
    go_wp2_with fail
    refine MK.out.mono ?_
    rintro e w2 ⟨p, rfl, P, hP⟩
    have P2 := Lib.hid (side_of hP)
    clear MK hP
    go_upto_region 9 with fail
    have B3 : Hid (Btw w (w2.alloc (.cells #[.int .i64 (N : Int), .int .i64 (rg : Int), .slice none 0 0] 35)) false p d reg N w2.heap.size [] [] P (.slice none 0 0) [] [w2.heap.size]) := by
      refine ⟨P2.out.under ((Below.refl _ _).alloc (Nat.le_refl _) _), ?_, fun x hx hm => ?_, Sims.nil N⟩
      · rw [← NR.out.2.2.2.2.2]
        exact ⟨Held.new _ _ _ rfl, PutsAt.nil _ _, P2.out.below.size, fun x => by simp [Value.ownBlock]⟩
      · have h1 : x = w2.heap.size := by simpa using hx
        have := P2.out.lt x hm
        omega
    generalize w2.alloc (.cells #[.int .i64 (N : Int), .int .i64 (rg : Int), .slice none 0 0] 35) = w3 at *
    generalize w2.heap.size = r at *
    clear P2
    go_wp2_with fail
    go_loopw [10, 13] (fun pv iv wr => ∃ (i p : Nat) (C : List Com) (Ls : List (List (Nat × List Nat))) (P : PS) (v : Value) (vs : List Value) (K : List Nat), i ≤ n ∧ pv = .pointer (some ⟨p, 0, none⟩) ∧ iv = .int .i64 (i : Nat) ∧ C.length ≤ 61 * i ∧ Btw w wr false p d reg N r C Ls P v vs K) (fun _ iv _ => n - (intOf iv).toNat)
    case atStart => exact ⟨0, _, _, _, _, _, _, _, by omega, rfl, rfl, by simp, B3.out⟩
    case round =>
      clear B3
      obtain ⟨i, p, C, Ls, P, v, vs, K, hi, rfl, rfl, hC, hbt⟩ := hrel
      have BT := Lib.hid hbt
      have HC := Lib.hid hC
      clear hbt hC
      by_cases hlt : i < n
      · have hlt' : (i : Int) < (n : Int) := by omega
        have hi0 : (0 : Int) ≤ (i : Int) := by omega
        have hi8 : (i : Int) ≤ 8 := by omega
        obtain ⟨g, off, x, rfl, hg, hgo, c0, c1, c2, c3⟩ := HL.out.at_ hlt
        have BW := Lib.hid BT.out.ps.below
        have GX := Lib.hid hgo
        have x0 := (BW.out.cell (p := ⟨g, off + i * 4, none⟩) hg).trans c0
        have x1 := (BW.out.cell (p := ⟨g, off + i * 4 + 1, none⟩) hg).trans c1
        have x2 := (BW.out.cell (p := ⟨g, off + i * 4 + 2, none⟩) hg).trans c2
        have x3 := (BW.out.cell (p := ⟨g, off + i * 4 + 3, none⟩) hg).trans c3
        have HG := Lib.hid hg
        have E2 := Lib.hid c2
        have E3 := Lib.hid c3
        have LV := Lib.hid (live_any w wr p d reg N r C Ls P v vs K x BT.out GX.out (by have := HC.out; omega) (by have := NR.out; omega))
        clear hgo c0 c1 c2 c3 hg
        go_wp2_with fail
        refine LV.out.mono ?_
        rintro e w1 ⟨C1, Ls1, F1, m1, v1, vs1, K1, least, rfl, hle, hlen⟩
        have LE := Lib.hid hle
        have HC1 : Hid (C1.length ≤ 61 * (i + 1)) := by show _ ≤ _; have := HC.out; omega
        obtain ⟨most, hmost⟩ : ∃ most, most = C1.length := ⟨_, rfl⟩
        have HM := Lib.hid hmost
        rw [← hmost]
        clear hle hlen LV x0 x1 x2 x3 BT HC BW hmost
        have BW := Lib.hid LE.out.below
        have x2 := (BW.out.cell (p := ⟨g, off + i * 4 + 2, none⟩) HG.out).trans E2.out
        have CR := Lib.hid (crash_any w1 d F1 m1 x.kA x.kn x.kc x.keep LE.out.disk (GX.out.keep.kept BW.out) GX.out.kn (fun h0 y hy hm => by
          have h1 := GX.out.lt h0 y hy
          have h2 := LE.out.new _ hm
          omega) (by have := LE.out.waits; omega))
        go_wp2_with fail
        refine CR.out.mono ?_
        rintro e w2 ⟨rfl, ht⟩
        obtain ⟨k, F2, hk1, hk2, hfu, hR⟩ := crashed LE.out x.keep ht
        obtain ⟨m2, hm2⟩ : ∃ m2, m2 = m1.crash x.keep := ⟨_, rfl⟩
        rw [← hm2] at hfu hR
        have R2 := Lib.hid (And.intro hfu hR)
        have KK : Hid (least ≤ k ∧ k ≤ C1.length) := ⟨hk1, hk2⟩
        clear ht hk1 hk2 hfu hR hm2 CR LE BW x2
        go_wp2_with fail
        go_loopw [17] (fun jv wr => ∃ (j : Nat) (F : List Nat) (m : Dsk.DM), j ≤ x.an ∧ j ≤ 8 ∧ jv = .int .i64 (j : Nat) ∧ m.fuel = -1 ∧ RestC w wr d reg N r (C1.take k) C1 Ls1 F m v1 vs1 K1) (fun jv _ => 8 - (intOf jv).toNat)
        case atStart => exact ⟨0, _, _, by omega, by omega, rfl, R2.out.1, R2.out.2⟩
        case round =>
          clear R2
          obtain ⟨j, F3, m3, hja, hj8, rfl, hfu, hR⟩ := hrel
          have R3 := Lib.hid (And.intro hfu hR)
          have DL : Hid ((C1.take k).length = k ∧ k < 1152921504606846976) := by
            have h1 := KK.out
            have h2 := HC1.out
            have : (C1.take k).length = k := by rw [List.length_take]; omega
            exact ⟨this, by omega⟩
          clear hfu hR
          have BW := Lib.hid R3.out.2.below
          have x2 := (BW.out.cell (p := ⟨g, off + i * 4 + 2, none⟩) HG.out).trans E2.out
          have x3 := (BW.out.cell (p := ⟨g, off + i * 4 + 3, none⟩) HG.out).trans E3.out
          by_cases hja2 : j < x.an
          · have hja3 : (j : Int) < (x.an : Int) := by omega
            have hj0 : (0 : Int) ≤ (j : Int) := by omega
            by_cases hj82 : j < 8
            · have hj83 : (j : Int) < 8 := by omega
              obtain ⟨ba, oa, eA, hba, hca⟩ := GX.out.again.2.2 (by omega)
              rw [eA] at x3
              have hay := hca j hja2
              obtain ⟨ay, hy⟩ : ∃ ay, ay = x.again.getD j 0 := ⟨_, rfl⟩
              have hy8 : ay < 256 := by
                rw [hy, List.getD_eq_getElem?_getD, List.getElem?_eq_getElem (by have := GX.out.again.1; omega)]
                exact GX.out.again.2.1 _ (List.getElem_mem _)
              rw [← hy] at hay
              have xa : wr.cell? ⟨ba, oa + j, none⟩ = some (.int .u8 (ay : Int)) := (BW.out.cell (p := ⟨ba, oa + j, none⟩) hba).trans hay
              have ay8 : (ay : Int) < 256 := by omega
              have ay0 : (0 : Int) ≤ (ay : Int) := by omega
              have FU := Lib.hid (fuel_any wr d F3 m3 (ay : Int) (by omega) R3.out.2.disk)
              clear hy hy8 hay hca hba eA
              go_wp2_with fail
              refine FU.out.mono ?_
              rintro e w4 ⟨rfl, ht⟩
              obtain ⟨F4, h4⟩ := R3.out.2.fuelled _ ht
              have R4 := Lib.hid h4
              obtain ⟨m4, hm4⟩ : ∃ m4, m4 = m3.setFuel (ay : Int) := ⟨_, rfl⟩
              rw [← hm4] at R4
              have OP := Lib.hid (r_open w w4 d reg N r (C1.take k) C1 Ls1 F4 m4 v1 vs1 K1 R4.out NR.out.1 NR.out.2.2.1 (by have := DL.out; omega))
              clear ht h4 hm4 FU R3 xa ay8 ay0 x2 x3
              go_wp2_with fail
              refine OP.out.mono ?_
              rintro e w5 ⟨P5, rfl, h5, _, _, _⟩
              have R5 := Lib.hid h5
              clear h5 R4 OP BW
              have BW := Lib.hid R5.out.below
              have x2 := (BW.out.cell (p := ⟨g, off + i * 4 + 2, none⟩) HG.out).trans E2.out
              have CR := Lib.hid (crash_any w5 d P5.F m4 x.kA x.kn x.kc x.keep R5.out.disk (GX.out.keep.kept BW.out) GX.out.kn (fun h0 y hy hm => by
                have h1 := GX.out.lt h0 y hy
                have h2 := R5.out.new _ hm
                omega) (by rw [R5.out.wait]; show 0 ≤ _; omega))
              go_wp2_with fail
              refine CR.out.mono ?_
              rintro e w6 ⟨rfl, ht⟩
              obtain ⟨F6, hfu, h6⟩ := R5.out.crashed x.keep ht
              obtain ⟨m6, hm6⟩ : ∃ m6, m6 = m4.crash x.keep := ⟨_, rfl⟩
              rw [← hm6] at hfu h6
              have R6 := Lib.hid (And.intro hfu h6)
              clear ht hfu h6 hm6 CR R5 BW x2
              go_wp2_with fail
              go_roundw
              case rel => exact ⟨j + 1, F6, m6, by omega, by omega, by go_num, R6.out.1, R6.out.2⟩
              case measure => simp [intOf]; omega
            · have hj83 : ¬ (j : Int) < 8 := by omega
              go_upto_region 24 with fail
              clear hja3 hj83 x2 hja hj8 hja2 hj82 hj0
              clear x3 HG E2 E3 GX
              have OP := Lib.hid (r_open w wr d reg N r (C1.take k) C1 Ls1 F3 m3 v1 vs1 K1 R3.out.2 NR.out.1 NR.out.2.2.1 (by have := DL.out; omega))
              go_wp2_with fail
              refine OP.out.mono ?_
              rintro e w4 ⟨P4, rfl, hR4, hps, hsyn, hK4⟩
              have hp0 := hps (by rw [R3.out.1]; omega)
              obtain ⟨p4, hp4⟩ : ∃ p4, p4 = P4.p := ⟨_, rfl⟩
              have HP4 := Lib.hid hp4
              rw [← hp4] at hp0
              rw [← hp4]
              obtain ⟨A9, c9, hv9⟩ := pslice hR4.rb.puts.row
              subst hv9
              have R4 := Lib.hid hR4
              have Q4 := Lib.hid (And.intro hp0 hK4)
              obtain ⟨kI, hkI⟩ : ∃ kI : Int, kI = (k : Int) := ⟨_, rfl⟩
              have SD : Hid (∀ w', Below w4.heap.size w4 w' → Calls Tryz.prog 21 #[.pointer (some ⟨p4, 0, none⟩)] w' fun e w'' => e = .returned (.int .i64 kI) ∧ ∃ q, w'' = w'.drewN q) := fun w' hb => by
                have := s_done w w' false p4 d reg N _ (C1.take k) P4 (Q4.out.1.under hb)
                rwa [DL.out.1, ← hkI] at this
              have SS : Hid (∀ w', Below w4.heap.size w4 w' → Calls Tryz.prog 20 #[.pointer (some ⟨p4, 0, none⟩)] w' fun e w'' => e = .returned (.int .i64 kI) ∧ w' = w'') := fun w' hb => by
                have := s_synced w w' false p4 d reg N _ (C1.take k) P4 (Q4.out.1.under hb)
                rwa [hsyn, DL.out.1, ← hkI] at this
              have kl : ¬ kI < (least : Int) := by have := KK.out; omega
              have km : ¬ (most : Int) < kI := by have := KK.out; have := HM.out; omega
              have kk : (kI != kI) = false := by simp
              have kI0 : (0 : Int) ≤ kI := by omega
              have HKI := Lib.hid hkI
              clear hR4 hps hsyn hK4 hp0 hp4 OP R3 BW hkI
              go_wp2_with fail
              refine (SD.out _ (Below.refl _ _)).mono ?_
              rintro e w5 ⟨rfl, q5, hw5⟩
              have B5 : Hid (Below w4.heap.size w4 w5) := by
                show Below _ _ _
                rw [hw5]
                exact punder_drewN _ _
              clear hw5
              go_wp2_with fail
              refine (SD.out _ B5.out).mono ?_
              rintro e w6 ⟨rfl, q6, hw6⟩
              have B6 : Hid (Below w4.heap.size w4 w6) := by
                show Below _ _ _
                rw [hw6]
                exact B5.out.trans ((punder_drewN _ _).mono B5.out.size)
              clear hw6 B5
              go_wp2_with fail
              refine (SS.out _ B6.out).mono ?_
              rintro e w' ⟨rfl, rfl⟩
              go_wp2_with fail
              refine (SD.out _ B6.out).mono ?_
              rintro e w7 ⟨rfl, q7, hw7⟩
              have B7 : Hid (Below w4.heap.size w4 w7) := by
                show Below _ _ _
                rw [hw7]
                exact B6.out.trans ((punder_drewN _ _).mono B6.out.size)
              have B7d : Hid (Below w4.heap.size w4 w7.drew) := B7.out.drew
              clear hw7 B6
              go_upto_region 27 with fail
              have CZ : Hid (∀ w8, Below w4.heap.size w4 w8 → w8.cell? ⟨r, 2, none⟩ = some (.slice A9 Ls1.length c9)) := fun w8 h8 => (R4.out.rb.under h8).pg.cell 2
              have FZ : Hid (∀ w8, Below w4.heap.size w4 w8 → w8.frozen? ⟨r, 2, none⟩ = false) := fun w8 h8 => (R4.out.rb.under h8).pg.frozen 2
              have c2 := CZ.out w7.drew B7d.out
              have hcap : k ≤ c9 := by
                have h1 : k ≤ Ls1.length := by rw [← R4.out.sims.len]; exact KK.out.2
                rcases R4.out.rb.puts.row.2 with ⟨_, h0⟩ | ⟨g9, cap, cur, h2, _, _, h3, _⟩
                · omega
                · injection h2 with _ _ h2
                  omega
              obtain rfl : kI = (k : Int) := HKI.out
              have hcap' : (k : Int) ≤ (c9 : Int) := by omega
              have SQ : Hid True := trivial
              have TK : Hid (∀ w8, Below w4.heap.size w4 w8 → ∃ K', Btw w (w8.setCell ⟨r, 2, none⟩ (.slice A9 k c9)) false p4 d reg N r (C1.take k) (Ls1.take k) P4 (.slice A9 k c9) (vs1.take k) K') := fun w8 h8 => by
                have := btw_cut R4.out (by rw [← HP4.out]; exact Q4.out.1) Q4.out.2 KK.out.2 h8
                rwa [← HP4.out] at this
              have HQ := Lib.hid SQ.out
              go_cut [] (fun wc => ∃ K', Btw w wc false p4 d reg N r (C1.take k) (Ls1.take k) P4 (.slice A9 k c9) (vs1.take k) K')
              case first =>
                refine wp_region_noPanic ?_
                refine wp_region_held_drew (S := fun _ => True) (by kernel_rfl) trivial (fun hHeld => ?_)
                refine take_ (i := 0) (v := ?_) 166 rfl rfl (by kernel_rfl) (by kernel_rfl) (by kernel_rfl) (fun _ _ _ h => h) (Or.inl ⟨by rfl, ?_⟩) (by assumption) ?_
                rotate_left
                · (intro wS hSw; (try dsimp only at hSw); go_simp; try with_reducible rfl)
                simp only [Act.put, List.setIfInBounds_toArray, List.set_cons_zero, List.set_cons_succ]
                refine take_ (i := 1) (v := ?_) 167 rfl rfl (by kernel_rfl) (by kernel_rfl) (by kernel_rfl) (fun _ _ _ h => h) (Or.inl ⟨by rfl, ?_⟩) (by assumption) ?_
                rotate_left
                · (intro wS hSw; (try dsimp only at hSw); go_simp; try with_reducible rfl)
                simp only [Act.put, List.setIfInBounds_toArray, List.set_cons_zero, List.set_cons_succ]
                refine take_ (i := 2) (v := ?_) 168 rfl rfl (by kernel_rfl) (by kernel_rfl) (by kernel_rfl) (fun _ _ _ h => h) (Or.inl ⟨by rfl, ?_⟩) (by assumption) ?_
                rotate_left
                · (intro wS hSw; (try dsimp only at hSw); go_simp; try with_reducible rfl)
                simp only [Act.put, List.setIfInBounds_toArray, List.set_cons_zero, List.set_cons_succ]
                refine take_ (i := 3) (v := ?_) 169 rfl rfl (by kernel_rfl) (by kernel_rfl) (by kernel_rfl) (fun _ _ _ h => h) (Or.inl ⟨by rfl, ?_⟩) (by assumption) ?_
                rotate_left
                · (intro wS hSw; (try dsimp only at hSw); go_simp; try with_reducible rfl)
                simp only [Act.put, List.setIfInBounds_toArray, List.set_cons_zero, List.set_cons_succ]
                refine take_ (i := 5) (v := ?_) 171 rfl rfl (by kernel_rfl) (by kernel_rfl) (by kernel_rfl) (fun _ _ _ h => h) (Or.inl ⟨by rfl, ?_⟩) (by assumption) ?_
                rotate_left
                · (intro wS hSw; (try dsimp only at hSw); go_simp; try with_reducible rfl)
                simp only [Act.put, List.setIfInBounds_toArray, List.set_cons_zero, List.set_cons_succ]
                refine two_ (i := 4) (j := 6) _ _ (by kernel_rfl) rfl rfl (fun K hK => ?_) (fun K hK => ?_)
                · go_simp
                  refine hK.out _ _ trivial (fun hHeld => ?_)
                  clear hK K
                  refine one_ (i := 6) _ (by kernel_rfl) rfl (fun K hK => ?_)
                  go_simp
                  refine (SD.out _ B7d.out).mono ?_
                  rintro e w8 ⟨rfl, q8, hw8⟩
                  have B8 : Hid (Below w4.heap.size w4 w8) := by
                    show Below _ _ _
                    rw [hw8]
                    exact B7d.out.trans ((punder_drewN _ _).mono B7d.out.size)
                  have T8 := Lib.hid (TK.out w8 B8.out)
                  have z2 := FZ.out w8 B8.out
                  have z3 := CZ.out w8 B8.out
                  clear hw8
                  go_wp2_with fail
                  refine hK.out _ _ trivial (fun hHeld => ?_)
                  clear hK K
                  refine take_ (i := 7) (v := ?_) 173 rfl rfl (by kernel_rfl) (by kernel_rfl) (by kernel_rfl) (fun _ _ _ h => h) (Or.inl ⟨by rfl, ?_⟩) (by assumption) ?_
                  rotate_left
                  · (intro wS hSw; (try dsimp only at hSw); go_simp; try with_reducible rfl)
                  simp only [Act.put, List.setIfInBounds_toArray, List.set_cons_zero, List.set_cons_succ]
                  refine take_ (i := 8) (v := ?_) 174 rfl rfl (by kernel_rfl) (by kernel_rfl) (by kernel_rfl) (fun _ _ _ h => h) (Or.inl ⟨by rfl, ?_⟩) (by assumption) ?_
                  rotate_left
                  · (intro wS hSw; (try dsimp only at hSw); go_simp; try with_reducible rfl)
                  simp only [Act.put, List.setIfInBounds_toArray, List.set_cons_zero, List.set_cons_succ]
                  refine take_ (i := 9) (v := ?_) 175 rfl rfl (by kernel_rfl) (by kernel_rfl) (by kernel_rfl) (fun _ _ _ h => h) (Or.inl ⟨by rfl, ?_⟩) (by assumption) ?_
                  rotate_left
                  · (intro wS hSw; (try dsimp only at hSw); go_simp; try with_reducible rfl)
                  simp only [Act.put, List.setIfInBounds_toArray, List.set_cons_zero, List.set_cons_succ]
                  refine one_ (i := 10) _ (by kernel_rfl) rfl (fun K hK => ?_)
                  go_simp
                  refine hK.out _ _ trivial (fun hHeld => ?_)
                  clear hK K
                  refine wpAnyH_done (by kernel_rfl) ?_ _
                  refine NoPanic.normal ?_
                  go_wp2_with fail
                  go_meet
                  case rel => exact T8.out
                · go_simp
                  refine (SD.out _ B7d.out).mono ?_
                  rintro e w8 ⟨rfl, q8, hw8⟩
                  have B8 : Hid (Below w4.heap.size w4 w8) := by
                    show Below _ _ _
                    rw [hw8]
                    exact B7d.out.trans ((punder_drewN _ _).mono B7d.out.size)
                  have T8 := Lib.hid (TK.out w8 B8.out)
                  have z2 := FZ.out w8 B8.out
                  have z3 := CZ.out w8 B8.out
                  clear hw8
                  go_wp2_with fail
                  refine hK.out _ _ trivial (fun hHeld => ?_)
                  clear hK K
                  refine one_ (i := 4) _ (by kernel_rfl) rfl (fun K hK => ?_)
                  go_simp
                  refine hK.out _ _ trivial (fun hHeld => ?_)
                  clear hK K
                  refine take_ (i := 7) (v := ?_) 173 rfl rfl (by kernel_rfl) (by kernel_rfl) (by kernel_rfl) (fun _ _ _ h => h) (Or.inl ⟨by rfl, ?_⟩) (by assumption) ?_
                  rotate_left
                  · (intro wS hSw; (try dsimp only at hSw); go_simp; try with_reducible rfl)
                  simp only [Act.put, List.setIfInBounds_toArray, List.set_cons_zero, List.set_cons_succ]
                  refine take_ (i := 8) (v := ?_) 174 rfl rfl (by kernel_rfl) (by kernel_rfl) (by kernel_rfl) (fun _ _ _ h => h) (Or.inl ⟨by rfl, ?_⟩) (by assumption) ?_
                  rotate_left
                  · (intro wS hSw; (try dsimp only at hSw); go_simp; try with_reducible rfl)
                  simp only [Act.put, List.setIfInBounds_toArray, List.set_cons_zero, List.set_cons_succ]
                  refine take_ (i := 9) (v := ?_) 175 rfl rfl (by kernel_rfl) (by kernel_rfl) (by kernel_rfl) (fun _ _ _ h => h) (Or.inl ⟨by rfl, ?_⟩) (by assumption) ?_
                  rotate_left
                  · (intro wS hSw; (try dsimp only at hSw); go_simp; try with_reducible rfl)
                  simp only [Act.put, List.setIfInBounds_toArray, List.set_cons_zero, List.set_cons_succ]
                  refine one_ (i := 10) _ (by kernel_rfl) rfl (fun K hK => ?_)
                  go_simp
                  refine hK.out _ _ trivial (fun hHeld => ?_)
                  clear hK K
                  refine wpAnyH_done (by kernel_rfl) ?_ _
                  refine NoPanic.normal ?_
                  go_wp2_with fail
                  go_meet
                  case rel => exact T8.out
              case rest =>
                obtain ⟨K9, hB⟩ := hcut
                have B9 := Lib.hid hB
                clear hB TK SD SS c2 B7 B7d FZ CZ R4 Q4 HQ SQ
                have BG := Lib.hid (s_begin w _ false p4 d reg N (C1.take k) P4 B9.out.ps)
                go_wp2_with fail
                refine BG.out.mono ?_
                rintro e w9 ⟨t, tm, rfl, hpo, ht, htm, ho⟩
                have DU0 : Hid (Duo w (w9.alloc (.cells #[.pointer (some ⟨r, 0, none⟩), .slice none 0 0] 43)) false p4 d reg N t tm r w9.heap.size (fun _ => none) (C1.take k) [] (Ls1.take k) P4 (.slice A9 k c9) (.slice none 0 0) (vs1.take k) K9 [w9.heap.size]) := duo_begin B9.out.ps B9.out.rb B9.out.far B9.out.sims hpo ht htm ho
                clear hpo ht htm ho BG B9
                go_upto_region 30 with fail
                generalize w9.alloc (.cells #[.pointer (some ⟨r, 0, none⟩), .slice none 0 0] 43) = w10 at *
                generalize w9.heap.size = t2 at *
                go_wp2_with fail
                go_loopw [23] (fun bv wr => ∃ b : Nat, b ≤ N ∧ bv = .int .i64 (b : Nat) ∧ Duo w wr false p4 d reg N t tm r t2 (fun _ => none) (C1.take k) [] (Ls1.take k) P4 (.slice A9 k c9) (.slice none 0 0) (vs1.take k) K9 [t2]) (fun bv _ => N - (intOf bv).toNat)
                case atStart => exact ⟨0, by omega, rfl, DU0.out⟩
                case round =>
                  clear DU0
                  obtain ⟨b, hbN, rfl, hD⟩ := hrel
                  have DU := Lib.hid hD
                  have r0 : wr.cell? ⟨r, 0, none⟩ = some (.int .i64 (N : Int)) := hD.rb.pg.cell 0
                  clear hD
                  by_cases hb2 : b < N
                  · have hb3 : (b : Int) < (N : Int) := by omega
                    have ST : Hid (Calls Tryz.prog 15 #[.pointer (some ⟨t, 0, none⟩), .pointer (some ⟨t2, 0, none⟩), .agg #[.int .u8 1, .int .i64 (b : Int), .string ⟨#[]⟩]] wr fun e w' => e = .returned (.bool true) ∧ Duo w w' false p4 d reg N t tm r t2 (fun _ => none) (C1.take k) [] (Ls1.take k) P4 (.slice A9 k c9) (.slice none 0 0) (vs1.take k) K9 [t2] ∧ Only [p4] wr w') :=
                      step_read w wr false p4 d reg N t tm r t2 (fun _ => none) (C1.take k) [] (Ls1.take k) P4 (.slice A9 k c9) (.slice none 0 0) (vs1.take k) K9 [t2] 1 (b : Int) ⟨#[]⟩ DU.out (by decide) (by decide) (by rw [← DU.out.sims.len]; have := DL.out; have := KK.out; have := HC1.out; omega)
                    go_wp2_with fail
                    refine ST.out.mono ?_
                    rintro e w11 ⟨rfl, hD, _⟩
                    have D11 := Lib.hid hD
                    clear hD ST DU r0
                    go_wp2_with fail
                    go_roundw
                    case rel => exact ⟨b + 1, by omega, by go_num, D11.out⟩
                    case measure => simp [intOf]; omega
                  · have hb3 : ¬ (b : Int) < (N : Int) := by omega
                    have AB := Lib.hid (s_abort w wr false p4 d reg N t tm (fun _ => none) (C1.take k) P4 DU.out.po)
                    go_wp2_with fail
                    refine AB.out.mono ?_
                    rintro e w11 ⟨rfl, ps, te, ho⟩
                    have B11 : Hid (Btw w w11 false p4 d reg N r (C1.take k) (Ls1.take k) P4 (.slice A9 k c9) (vs1.take k) K9) := by
                      refine ⟨ps, DU.out.rb.only ho (fun y hy hm => ?_), fun y hy hm => DU.out.far y (.inl hy) (mem_pfoot.2 (.inr (.inr hm))), DU.out.sims⟩
                      refine DU.out.far y (.inl hy) (mem_pfoot.2 ?_)
                      simp only [List.mem_cons, List.not_mem_nil, or_false] at hm
                      rcases hm with e | e
                      · exact .inr (.inr (by rw [e]; exact DU.out.po.ps.pin))
                      · exact .inl e
                    clear ps te ho AB DU r0
                    go_wp2_with fail
                    go_roundw
                    case rel => exact ⟨i + 1, p4, C1.take k, Ls1.take k, P4, _, _, K9, by omega, rfl, by go_num, by have := DL.out; have := KK.out; have := HC1.out; omega, B11.out⟩
                    case measure => simp [intOf]; omega
          · have hja3 : ¬ (j : Int) < (x.an : Int) := by omega
            go_upto_region 24 with fail
            clear hja3 x2 hja hj8 hja2
            clear x3 HG E2 E3 GX
            have OP := Lib.hid (r_open w wr d reg N r (C1.take k) C1 Ls1 F3 m3 v1 vs1 K1 R3.out.2 NR.out.1 NR.out.2.2.1 (by have := DL.out; omega))
            go_wp2_with fail
            refine OP.out.mono ?_
            rintro e w4 ⟨P4, rfl, hR4, hps, hsyn, hK4⟩
            have hp0 := hps (by rw [R3.out.1]; omega)
            obtain ⟨p4, hp4⟩ : ∃ p4, p4 = P4.p := ⟨_, rfl⟩
            have HP4 := Lib.hid hp4
            rw [← hp4] at hp0
            rw [← hp4]
            obtain ⟨A9, c9, hv9⟩ := pslice hR4.rb.puts.row
            subst hv9
            have R4 := Lib.hid hR4
            have Q4 := Lib.hid (And.intro hp0 hK4)
            obtain ⟨kI, hkI⟩ : ∃ kI : Int, kI = (k : Int) := ⟨_, rfl⟩
            have SD : Hid (∀ w', Below w4.heap.size w4 w' → Calls Tryz.prog 21 #[.pointer (some ⟨p4, 0, none⟩)] w' fun e w'' => e = .returned (.int .i64 kI) ∧ ∃ q, w'' = w'.drewN q) := fun w' hb => by
              have := s_done w w' false p4 d reg N _ (C1.take k) P4 (Q4.out.1.under hb)
              rwa [DL.out.1, ← hkI] at this
            have SS : Hid (∀ w', Below w4.heap.size w4 w' → Calls Tryz.prog 20 #[.pointer (some ⟨p4, 0, none⟩)] w' fun e w'' => e = .returned (.int .i64 kI) ∧ w' = w'') := fun w' hb => by
              have := s_synced w w' false p4 d reg N _ (C1.take k) P4 (Q4.out.1.under hb)
              rwa [hsyn, DL.out.1, ← hkI] at this
            have kl : ¬ kI < (least : Int) := by have := KK.out; omega
            have km : ¬ (most : Int) < kI := by have := KK.out; have := HM.out; omega
            have kk : (kI != kI) = false := by simp
            have kI0 : (0 : Int) ≤ kI := by omega
            have HKI := Lib.hid hkI
            clear hR4 hps hsyn hK4 hp0 hp4 OP R3 BW hkI
            go_wp2_with fail
            refine (SD.out _ (Below.refl _ _)).mono ?_
            rintro e w5 ⟨rfl, q5, hw5⟩
            have B5 : Hid (Below w4.heap.size w4 w5) := by
              show Below _ _ _
              rw [hw5]
              exact punder_drewN _ _
            clear hw5
            go_wp2_with fail
            refine (SD.out _ B5.out).mono ?_
            rintro e w6 ⟨rfl, q6, hw6⟩
            have B6 : Hid (Below w4.heap.size w4 w6) := by
              show Below _ _ _
              rw [hw6]
              exact B5.out.trans ((punder_drewN _ _).mono B5.out.size)
            clear hw6 B5
            go_wp2_with fail
            refine (SS.out _ B6.out).mono ?_
            rintro e w' ⟨rfl, rfl⟩
            go_wp2_with fail
            refine (SD.out _ B6.out).mono ?_
            rintro e w7 ⟨rfl, q7, hw7⟩
            have B7 : Hid (Below w4.heap.size w4 w7) := by
              show Below _ _ _
              rw [hw7]
              exact B6.out.trans ((punder_drewN _ _).mono B6.out.size)
            have B7d : Hid (Below w4.heap.size w4 w7.drew) := B7.out.drew
            clear hw7 B6
            go_upto_region 27 with fail
            have CZ : Hid (∀ w8, Below w4.heap.size w4 w8 → w8.cell? ⟨r, 2, none⟩ = some (.slice A9 Ls1.length c9)) := fun w8 h8 => (R4.out.rb.under h8).pg.cell 2
            have FZ : Hid (∀ w8, Below w4.heap.size w4 w8 → w8.frozen? ⟨r, 2, none⟩ = false) := fun w8 h8 => (R4.out.rb.under h8).pg.frozen 2
            have c2 := CZ.out w7.drew B7d.out
            have hcap : k ≤ c9 := by
              have h1 : k ≤ Ls1.length := by rw [← R4.out.sims.len]; exact KK.out.2
              rcases R4.out.rb.puts.row.2 with ⟨_, h0⟩ | ⟨g9, cap, cur, h2, _, _, h3, _⟩
              · omega
              · injection h2 with _ _ h2
                omega
            obtain rfl : kI = (k : Int) := HKI.out
            have hcap' : (k : Int) ≤ (c9 : Int) := by omega
            have SQ : Hid True := trivial
            have TK : Hid (∀ w8, Below w4.heap.size w4 w8 → ∃ K', Btw w (w8.setCell ⟨r, 2, none⟩ (.slice A9 k c9)) false p4 d reg N r (C1.take k) (Ls1.take k) P4 (.slice A9 k c9) (vs1.take k) K') := fun w8 h8 => by
              have := btw_cut R4.out (by rw [← HP4.out]; exact Q4.out.1) Q4.out.2 KK.out.2 h8
              rwa [← HP4.out] at this
            have HQ := Lib.hid SQ.out
            go_cut [] (fun wc => ∃ K', Btw w wc false p4 d reg N r (C1.take k) (Ls1.take k) P4 (.slice A9 k c9) (vs1.take k) K')
            case first =>
              refine wp_region_noPanic ?_
              refine wp_region_held_drew (S := fun _ => True) (by kernel_rfl) trivial (fun hHeld => ?_)
              refine take_ (i := 0) (v := ?_) 166 rfl rfl (by kernel_rfl) (by kernel_rfl) (by kernel_rfl) (fun _ _ _ h => h) (Or.inl ⟨by rfl, ?_⟩) (by assumption) ?_
              rotate_left
              · (intro wS hSw; (try dsimp only at hSw); go_simp; try with_reducible rfl)
              simp only [Act.put, List.setIfInBounds_toArray, List.set_cons_zero, List.set_cons_succ]
              refine take_ (i := 1) (v := ?_) 167 rfl rfl (by kernel_rfl) (by kernel_rfl) (by kernel_rfl) (fun _ _ _ h => h) (Or.inl ⟨by rfl, ?_⟩) (by assumption) ?_
              rotate_left
              · (intro wS hSw; (try dsimp only at hSw); go_simp; try with_reducible rfl)
              simp only [Act.put, List.setIfInBounds_toArray, List.set_cons_zero, List.set_cons_succ]
              refine take_ (i := 2) (v := ?_) 168 rfl rfl (by kernel_rfl) (by kernel_rfl) (by kernel_rfl) (fun _ _ _ h => h) (Or.inl ⟨by rfl, ?_⟩) (by assumption) ?_
              rotate_left
              · (intro wS hSw; (try dsimp only at hSw); go_simp; try with_reducible rfl)
              simp only [Act.put, List.setIfInBounds_toArray, List.set_cons_zero, List.set_cons_succ]
              refine take_ (i := 3) (v := ?_) 169 rfl rfl (by kernel_rfl) (by kernel_rfl) (by kernel_rfl) (fun _ _ _ h => h) (Or.inl ⟨by rfl, ?_⟩) (by assumption) ?_
              rotate_left
              · (intro wS hSw; (try dsimp only at hSw); go_simp; try with_reducible rfl)
              simp only [Act.put, List.setIfInBounds_toArray, List.set_cons_zero, List.set_cons_succ]
              refine take_ (i := 5) (v := ?_) 171 rfl rfl (by kernel_rfl) (by kernel_rfl) (by kernel_rfl) (fun _ _ _ h => h) (Or.inl ⟨by rfl, ?_⟩) (by assumption) ?_
              rotate_left
              · (intro wS hSw; (try dsimp only at hSw); go_simp; try with_reducible rfl)
              simp only [Act.put, List.setIfInBounds_toArray, List.set_cons_zero, List.set_cons_succ]
              refine two_ (i := 4) (j := 6) _ _ (by kernel_rfl) rfl rfl (fun K hK => ?_) (fun K hK => ?_)
              · go_simp
                refine hK.out _ _ trivial (fun hHeld => ?_)
                clear hK K
                refine one_ (i := 6) _ (by kernel_rfl) rfl (fun K hK => ?_)
                go_simp
                refine (SD.out _ B7d.out).mono ?_
                rintro e w8 ⟨rfl, q8, hw8⟩
                have B8 : Hid (Below w4.heap.size w4 w8) := by
                  show Below _ _ _
                  rw [hw8]
                  exact B7d.out.trans ((punder_drewN _ _).mono B7d.out.size)
                have T8 := Lib.hid (TK.out w8 B8.out)
                have z2 := FZ.out w8 B8.out
                have z3 := CZ.out w8 B8.out
                clear hw8
                go_wp2_with fail
                refine hK.out _ _ trivial (fun hHeld => ?_)
                clear hK K
                refine take_ (i := 7) (v := ?_) 173 rfl rfl (by kernel_rfl) (by kernel_rfl) (by kernel_rfl) (fun _ _ _ h => h) (Or.inl ⟨by rfl, ?_⟩) (by assumption) ?_
                rotate_left
                · (intro wS hSw; (try dsimp only at hSw); go_simp; try with_reducible rfl)
                simp only [Act.put, List.setIfInBounds_toArray, List.set_cons_zero, List.set_cons_succ]
                refine take_ (i := 8) (v := ?_) 174 rfl rfl (by kernel_rfl) (by kernel_rfl) (by kernel_rfl) (fun _ _ _ h => h) (Or.inl ⟨by rfl, ?_⟩) (by assumption) ?_
                rotate_left
                · (intro wS hSw; (try dsimp only at hSw); go_simp; try with_reducible rfl)
                simp only [Act.put, List.setIfInBounds_toArray, List.set_cons_zero, List.set_cons_succ]
                refine take_ (i := 9) (v := ?_) 175 rfl rfl (by kernel_rfl) (by kernel_rfl) (by kernel_rfl) (fun _ _ _ h => h) (Or.inl ⟨by rfl, ?_⟩) (by assumption) ?_
                rotate_left
                · (intro wS hSw; (try dsimp only at hSw); go_simp; try with_reducible rfl)
                simp only [Act.put, List.setIfInBounds_toArray, List.set_cons_zero, List.set_cons_succ]
                refine one_ (i := 10) _ (by kernel_rfl) rfl (fun K hK => ?_)
                go_simp
                refine hK.out _ _ trivial (fun hHeld => ?_)
                clear hK K
                refine wpAnyH_done (by kernel_rfl) ?_ _
                refine NoPanic.normal ?_
                go_wp2_with fail
                go_meet
                case rel => exact T8.out
              · go_simp
                refine (SD.out _ B7d.out).mono ?_
                rintro e w8 ⟨rfl, q8, hw8⟩
                have B8 : Hid (Below w4.heap.size w4 w8) := by
                  show Below _ _ _
                  rw [hw8]
                  exact B7d.out.trans ((punder_drewN _ _).mono B7d.out.size)
                have T8 := Lib.hid (TK.out w8 B8.out)
                have z2 := FZ.out w8 B8.out
                have z3 := CZ.out w8 B8.out
                clear hw8
                go_wp2_with fail
                refine hK.out _ _ trivial (fun hHeld => ?_)
                clear hK K
                refine one_ (i := 4) _ (by kernel_rfl) rfl (fun K hK => ?_)
                go_simp
                refine hK.out _ _ trivial (fun hHeld => ?_)
                clear hK K
                refine take_ (i := 7) (v := ?_) 173 rfl rfl (by kernel_rfl) (by kernel_rfl) (by kernel_rfl) (fun _ _ _ h => h) (Or.inl ⟨by rfl, ?_⟩) (by assumption) ?_
                rotate_left
                · (intro wS hSw; (try dsimp only at hSw); go_simp; try with_reducible rfl)
                simp only [Act.put, List.setIfInBounds_toArray, List.set_cons_zero, List.set_cons_succ]
                refine take_ (i := 8) (v := ?_) 174 rfl rfl (by kernel_rfl) (by kernel_rfl) (by kernel_rfl) (fun _ _ _ h => h) (Or.inl ⟨by rfl, ?_⟩) (by assumption) ?_
                rotate_left
                · (intro wS hSw; (try dsimp only at hSw); go_simp; try with_reducible rfl)
                simp only [Act.put, List.setIfInBounds_toArray, List.set_cons_zero, List.set_cons_succ]
                refine take_ (i := 9) (v := ?_) 175 rfl rfl (by kernel_rfl) (by kernel_rfl) (by kernel_rfl) (fun _ _ _ h => h) (Or.inl ⟨by rfl, ?_⟩) (by assumption) ?_
                rotate_left
                · (intro wS hSw; (try dsimp only at hSw); go_simp; try with_reducible rfl)
                simp only [Act.put, List.setIfInBounds_toArray, List.set_cons_zero, List.set_cons_succ]
                refine one_ (i := 10) _ (by kernel_rfl) rfl (fun K hK => ?_)
                go_simp
                refine hK.out _ _ trivial (fun hHeld => ?_)
                clear hK K
                refine wpAnyH_done (by kernel_rfl) ?_ _
                refine NoPanic.normal ?_
                go_wp2_with fail
                go_meet
                case rel => exact T8.out
            case rest =>
              obtain ⟨K9, hB⟩ := hcut
              have B9 := Lib.hid hB
              clear hB TK SD SS c2 B7 B7d FZ CZ R4 Q4 HQ SQ
              have BG := Lib.hid (s_begin w _ false p4 d reg N (C1.take k) P4 B9.out.ps)
              go_wp2_with fail
              refine BG.out.mono ?_
              rintro e w9 ⟨t, tm, rfl, hpo, ht, htm, ho⟩
              have DU0 : Hid (Duo w (w9.alloc (.cells #[.pointer (some ⟨r, 0, none⟩), .slice none 0 0] 43)) false p4 d reg N t tm r w9.heap.size (fun _ => none) (C1.take k) [] (Ls1.take k) P4 (.slice A9 k c9) (.slice none 0 0) (vs1.take k) K9 [w9.heap.size]) := duo_begin B9.out.ps B9.out.rb B9.out.far B9.out.sims hpo ht htm ho
              clear hpo ht htm ho BG B9
              go_upto_region 30 with fail
              generalize w9.alloc (.cells #[.pointer (some ⟨r, 0, none⟩), .slice none 0 0] 43) = w10 at *
              generalize w9.heap.size = t2 at *
              go_wp2_with fail
              go_loopw [23] (fun bv wr => ∃ b : Nat, b ≤ N ∧ bv = .int .i64 (b : Nat) ∧ Duo w wr false p4 d reg N t tm r t2 (fun _ => none) (C1.take k) [] (Ls1.take k) P4 (.slice A9 k c9) (.slice none 0 0) (vs1.take k) K9 [t2]) (fun bv _ => N - (intOf bv).toNat)
              case atStart => exact ⟨0, by omega, rfl, DU0.out⟩
              case round =>
                clear DU0
                obtain ⟨b, hbN, rfl, hD⟩ := hrel
                have DU := Lib.hid hD
                have r0 : wr.cell? ⟨r, 0, none⟩ = some (.int .i64 (N : Int)) := hD.rb.pg.cell 0
                clear hD
                by_cases hb2 : b < N
                · have hb3 : (b : Int) < (N : Int) := by omega
                  have ST : Hid (Calls Tryz.prog 15 #[.pointer (some ⟨t, 0, none⟩), .pointer (some ⟨t2, 0, none⟩), .agg #[.int .u8 1, .int .i64 (b : Int), .string ⟨#[]⟩]] wr fun e w' => e = .returned (.bool true) ∧ Duo w w' false p4 d reg N t tm r t2 (fun _ => none) (C1.take k) [] (Ls1.take k) P4 (.slice A9 k c9) (.slice none 0 0) (vs1.take k) K9 [t2] ∧ Only [p4] wr w') :=
                    step_read w wr false p4 d reg N t tm r t2 (fun _ => none) (C1.take k) [] (Ls1.take k) P4 (.slice A9 k c9) (.slice none 0 0) (vs1.take k) K9 [t2] 1 (b : Int) ⟨#[]⟩ DU.out (by decide) (by decide) (by rw [← DU.out.sims.len]; have := DL.out; have := KK.out; have := HC1.out; omega)
                  go_wp2_with fail
                  refine ST.out.mono ?_
                  rintro e w11 ⟨rfl, hD, _⟩
                  have D11 := Lib.hid hD
                  clear hD ST DU r0
                  go_wp2_with fail
                  go_roundw
                  case rel => exact ⟨b + 1, by omega, by go_num, D11.out⟩
                  case measure => simp [intOf]; omega
                · have hb3 : ¬ (b : Int) < (N : Int) := by omega
                  have AB := Lib.hid (s_abort w wr false p4 d reg N t tm (fun _ => none) (C1.take k) P4 DU.out.po)
                  go_wp2_with fail
                  refine AB.out.mono ?_
                  rintro e w11 ⟨rfl, ps, te, ho⟩
                  have B11 : Hid (Btw w w11 false p4 d reg N r (C1.take k) (Ls1.take k) P4 (.slice A9 k c9) (vs1.take k) K9) := by
                    refine ⟨ps, DU.out.rb.only ho (fun y hy hm => ?_), fun y hy hm => DU.out.far y (.inl hy) (mem_pfoot.2 (.inr (.inr hm))), DU.out.sims⟩
                    refine DU.out.far y (.inl hy) (mem_pfoot.2 ?_)
                    simp only [List.mem_cons, List.not_mem_nil, or_false] at hm
                    rcases hm with e | e
                    · exact .inr (.inr (by rw [e]; exact DU.out.po.ps.pin))
                    · exact .inl e
                  clear ps te ho AB DU r0
                  go_wp2_with fail
                  go_roundw
                  case rel => exact ⟨i + 1, p4, C1.take k, Ls1.take k, P4, _, _, K9, by omega, rfl, by go_num, by have := DL.out; have := KK.out; have := HC1.out; omega, B11.out⟩
                  case measure => simp [intOf]; omega
      · obtain rfl : i = n := by omega
        have BW := Lib.hid BT.out.ps.below
        go_wp2_with fail
        go_ret
        exact ⟨rfl, BW.out⟩
end Go.Proofs.YtkajneeihhobhaaGreat.pagerCrash
