/-
  P3.5: one life behind the other, each ended by a crash at any write or flush, whatever the crash keeps: the law answers true for every input, and its arguments read behind the call as before. No condition beside the row's own.
-/
import Derived.Test.YtgbilhfpogdfeaaMCrash
namespace Go.Proofs.Ytgbilhfpogdfeaa.walCrash
open Go.ChangeShapes Go.WideShapes Go.ChangeAt Go.RowKit Wal

theorem own : ownKnob Try.prog.godebug = none := by kernel_rfl
theorem laidOut : laidOutB Try.prog = true := by kernel_rfl

/-- Ahead of life i. -/
structure At (w wr : World) (R i : Nat) (b : Nat) (G : List Nat) (s : LS) (d : Nat) (F : List Nat) (m : Dsk.DM) (v : Value) (vs : List Value) (Ls : List (List ByteArray)) (f y pb : Nat) (T A : Nat) : Prop where
  lives : LLives w wr b G s d F m
  cs : CS s m R (Ls.map txts) f y
  size : m.dur.length = R + 1
  wait : m.wait = []
  list : ListAt w wr v vs Ls
  far : ∀ z, v.ownBlock = some z → z ∉ G ++ F
  count : Ls.length ≤ 60 * i
  bd : Held wr pb 33 (bnd f T y A)
  new : w.heap.size ≤ pb
  pbf : pb ∉ G ++ F

/-- Behind a life. -/
def After (w w' : World) (R d pb n : Nat) (keep : List Bool) (v : Value) : Prop := ∃ vs Ls f T y A m F,
  Lives w w' d F (m.crash keep) ∧ m.dur.length = R + 1 ∧ Left m R (Ls.map txts) f T y A ∧ ListAt w w' v vs Ls ∧ (∀ z, v.ownBlock = some z → z ∉ F) ∧ Ls.length ≤ n ∧ Held w' pb 33 (bnd f T y A) ∧ pb ∉ F

set_option maxRecDepth 100000 in
set_option maxHeartbeats 6400000 in
theorem walk (n : Nat) (hn : n < 256) (A : Option Addr) (N c : Nat) (l : List WLife) (w : World) (hl : WLives w A N l) (hN : N ≤ 3518437208884) :
    Calls Try.prog 3 #[.int .u8 (n : Int), .slice A N c] w fun e w' => e = .returned (.bool true) ∧ Below w.heap.size w w' := by
  have HL := Lib.hid hl
  have RN := ringN_le n
  have RA := fun W => Lib.hid (ring_any W n hn)
  obtain ⟨R, hR⟩ : ∃ R, R = ringN n := ⟨_, rfl⟩
  rw [← hR] at RN
  simp only [← hR] at RA
  clear hl hR
  have hN9 : (N : Int) ≤ 3518437208884 := by omega
  have hR9 : (R : Int) ≤ 31 := by omega
  by_cases h12 : 12 < N
  · have h12' : (12 : Int) < (N : Int) := by omega
    go_enter Try.func3, Try.ntmps3
    go_wp2_with fail
    refine (fixed_any _).mono ?_
    rintro e w1 ⟨rfl, hbel⟩
    have BF := Lib.hid hbel
    clear hbel
    go_wp2_with fail
    refine (fixed_any _).mono ?_
    rintro e w2 ⟨rfl, hbel⟩
    have BG := Lib.hid (BF.out.trans (hbel.mono BF.out.size))
    clear hbel
    go_wp2_with fail
    go_ret
    exact ⟨rfl, BG.out⟩
  · have h12' : ¬ (12 : Int) < (N : Int) := by omega
    go_enter Try.func3, Try.ntmps3
    go_wp2_with fail
    refine (fixed_any _).mono ?_
    rintro e w1 ⟨rfl, hbel⟩
    have BF := Lib.hid hbel
    clear hbel
    go_wp2_with fail
    refine (RA _).out.mono ?_
    rintro e w' ⟨rfl, rfl⟩
    obtain ⟨M, hM⟩ : ∃ M : Nat, M = R + 1 := ⟨_, rfl⟩
    have HM := Lib.hid hM
    have eM : ((R : Int) + 1) = (M : Int) := by omega
    have EM := Lib.hid eM
    have cM : Hid (clampN (M : Int) = M) := clamp_of (by omega) (by omega)
    have hM9 : M ≤ 4096 := by omega
    clear hM eM
    go_wp2_with fail
    rw [EM.out]
    refine (new_any _ _).mono ?_
    intro e w2 hm
    obtain ⟨d, F, rfl, hL⟩ := hm.lives
    rw [cM.out] at hL
    have L2 : Hid (Lives w w2 d F (Dsk.fresh M)) := ⟨hL.disk, BF.out.trans (hL.below.mono BF.out.size), fun x hx => Nat.le_trans BF.out.size (hL.new x hx)⟩
    have hlen : Hid ((Dsk.fresh M).dur.length = M) := by show _ = _; simp [Dsk.fresh]
    clear hm hL BF cM
    go_wp2_with fail
    refine (RA _).out.mono ?_
    rintro e w' ⟨rfl, rfl⟩
    have hcR : Hid (checkErr M ((1 : Nat) : Int) (R : Int) = 0) := by
      show _ = _
      have := HM.out
      unfold checkErr
      rw [if_neg (by omega)]
    have MK := Lib.hid (make_any w2 d F (Dsk.fresh M) 1 R L2.out.disk (by rw [hlen.out]; exact hcR.out) (by simp [Dsk.fresh]))
    obtain ⟨m1, em, im, wm, lm, fm, _⟩ := inv_make (m := Dsk.fresh M) (frm := 1) (n := R) (by rw [hlen.out]; omega) rfl RN.1 (by rw [hlen.out, HM.out]; omega) rfl
    rw [em] at MK
    have C1 : Hid (CS (openS 1 (R - 1) 0 1 0 []) m1 R [] 0 0 ∧ m1.dur.length = R + 1 ∧ m1.wait = []) := ⟨⟨im, rfl, rfl, rfl, rfl, Nat.le_refl _, Nat.le_refl _⟩, by rw [lm, hlen.out, HM.out], wm⟩
    clear em im wm lm fm
    go_wp2_with fail
    refine MK.out.mono ?_
    intro e w3 hm
    obtain ⟨b, G3, F3, rfl, hL, _, _⟩ := hm.ok rfl L2.out
    have L3 : Hid (LLives w w3 b G3 (openS 1 (R - 1) 0 1 0 []) d F3 m1) := hL
    clear hm hL MK L2 hlen
    go_upto_region 9 with fail
    obtain ⟨w4, hw4⟩ : ∃ w4, w4 = w3.alloc (.cells #[.int .i64 0, .int .i64 0, .int .i64 0, .int .i64 0] 33) := ⟨_, rfl⟩
    obtain ⟨pb, hpb⟩ : ∃ pb, pb = w3.heap.size := ⟨_, rfl⟩
    have A4 : Hid (At w w4 R 0 b G3 (openS 1 (R - 1) 0 1 0 []) d F3 m1 (.slice none 0 0) [] [] 0 0 pb 0 0) := by
      have hb : Below w3.heap.size w3 w4 := by rw [hw4]; exact (Below.refl _ _).alloc (Nat.le_refl _) _
      exact ⟨L3.out.under hb, C1.out.1, C1.out.2.1, C1.out.2.2, ListAt.nil _ _, (fun z hz => by cases hz), Nat.le_refl _, by rw [hw4]; exact Held.new _ _ _ hpb, by rw [hpb]; exact L3.out.below.size, L3.out.far (by omega)⟩
    rw [← hw4, ← hpb]
    clear hw4 hpb L3 C1
    go_wp2_with fail
    go_loopw [6, 8, 10] (fun lv av iv wr => ∃ i b G s F m v vs Ls f y T' A', i ≤ N ∧ iv = .int .i64 (i : Nat) ∧ lv = .pointer (some ⟨b, 0, none⟩) ∧ v = av ∧ At w wr R i b G s d F m v vs Ls f y pb T' A') (fun _ _ iv _ => N - (intOf iv).toNat)
    case atStart => exact ⟨0, b, G3, _, F3, m1, _, [], [], 0, 0, 0, 0, by omega, rfl, rfl, rfl, A4.out⟩
    case round =>
      obtain ⟨i, b, G, s, F, m, v, vs, Ls, f, y, T0, S0, hi, rfl, rfl, rfl, hat⟩ := hrel
      have AA := Lib.hid hat
      clear hat A4
      by_cases hlt : i < N
      · have hlt' : (i : Int) < (N : Int) := by omega
        obtain ⟨g, off, x, rfl, hg, hgo, c0, c1, c2⟩ := HL.out.at_ hlt
        have BW := Lib.hid AA.out.lives.below
        have x0 := (BW.out.cell (p := ⟨g, off + i * 3, none⟩) hg).trans c0
        have HV := Lib.hid (heavy_any wr x.A x.N x.c x.ops (hgo.ops.kept BW.out) hgo.n)
        have GX := Lib.hid hgo
        have E0 := Lib.hid c0
        have E1 := Lib.hid c1
        have E2 := Lib.hid c2
        clear hgo c0 c1 c2
        go_wp2_with fail
        refine HV.out.mono ?_
        rintro e w' ⟨hb, rfl, _, rfl⟩
        cases hb with
        | true =>
          go_wp2_with fail
          go_ret
          exact ⟨rfl, BW.out⟩
        | false =>
          have hc720 : Ls.length ≤ 720 ∧ y ≤ Ls.length ∧ Ls.length ≤ 60 * i := by
            have h1 := AA.out.count
            have h2 := AA.out.cs.ts.2
            rw [List.length_map] at h2
            omega
          have q0 : wr.cell? ⟨pb, 0, none⟩ = some (.int .i64 (f : Int)) := AA.out.bd.cell 0
          have q1 : wr.cell? ⟨pb, 1, none⟩ = some (.int .i64 (T0 : Int)) := AA.out.bd.cell 1
          have q2 : wr.cell? ⟨pb, 2, none⟩ = some (.int .i64 (y : Int)) := AA.out.bd.cell 2
          have q3 : wr.cell? ⟨pb, 3, none⟩ = some (.int .i64 (S0 : Int)) := AA.out.bd.cell 3
          have z1 := AA.out.bd.frozen 1
          have z3 := AA.out.bd.frozen 3
          go_upto_region 16 with fail
          have ho : Only [pb] wr ((wr.setCell ⟨pb, 1, none⟩ (.int .i64 (f : Int))).setCell ⟨pb, 3, none⟩ (.int .i64 (y : Int))) := ((Only.refl _ wr).setCell (.inl (by simp)) _).setCell (.inl (by simp)) _
          have hpv : ∀ z, v.ownBlock = some z → z ∉ [pb] := fun z hz hm => by
            obtain rfl : z = pb := by simpa using hm
            exact AA.out.bd.ne_row AA.out.list.row (by decide) z hz rfl
          have hp1 : ∀ z ∈ [pb], w.heap.size ≤ z ∧ z ∉ G ++ F := fun z hz => by
            obtain rfl : z = pb := by simpa using hz
            exact ⟨AA.out.new, AA.out.pbf⟩
          have A5 : Hid (At w ((wr.setCell ⟨pb, 1, none⟩ (.int .i64 (f : Int))).setCell ⟨pb, 3, none⟩ (.int .i64 (y : Int))) R i b G s d F m v vs Ls f y pb f y) :=
            ⟨AA.out.lives.own ho hp1, AA.out.cs, AA.out.size, AA.out.wait, AA.out.list.only ho hpv, AA.out.far, AA.out.count, (AA.out.bd.set_ 1 (.int .i64 (f : Int))).set_ 3 (.int .i64 (y : Int)), AA.out.new, AA.out.pbf⟩
          clear ho hpv hp1 q0 q1 q2 q3 z1 z3 x0 BW AA HV
          generalize (wr.setCell ⟨pb, 1, none⟩ (.int .i64 (f : Int))).setCell ⟨pb, 3, none⟩ (.int .i64 (y : Int)) = w5 at *
          have BW := Lib.hid A5.out.lives.below
          have x0 : w5.cell? ⟨g, off + i * 3, none⟩ = some (.slice x.A x.N x.c) := (BW.out.cell (p := ⟨g, off + i * 3, none⟩) hg).trans E0.out
          have x1 : w5.cell? ⟨g, off + i * 3 + 1, none⟩ = some (.int .u8 (x.fuel : Int)) := (BW.out.cell (p := ⟨g, off + i * 3 + 1, none⟩) hg).trans E1.out
          have x2 : w5.cell? ⟨g, off + i * 3 + 2, none⟩ = some (.slice x.kA x.kn x.kc) := (BW.out.cell (p := ⟨g, off + i * 3 + 2, none⟩) hg).trans E2.out
          have q0 : w5.cell? ⟨pb, 0, none⟩ = some (.int .i64 (f : Int)) := A5.out.bd.cell 0
          have q1 : w5.cell? ⟨pb, 1, none⟩ = some (.int .i64 (f : Int)) := A5.out.bd.cell 1
          have q2 : w5.cell? ⟨pb, 2, none⟩ = some (.int .i64 (y : Int)) := A5.out.bd.cell 2
          have q3 : w5.cell? ⟨pb, 3, none⟩ = some (.int .i64 (y : Int)) := A5.out.bd.cell 3
          have LV : Hid (∀ k, Calls Try.prog 9 #[.pointer (some ⟨d, 0, none⟩), .pointer (some ⟨b, 0, none⟩), .agg #[.slice x.A x.N x.c, .int .u8 (x.fuel : Int), .slice x.kA x.kn x.kc], v, .agg #[.int .i64 (f : Int), .int .i64 (f : Int), .int .i64 (y : Int), .int .i64 (y : Int)]] (w5.drewN k) (Ended w x R d Ls.length pb (bnd f f y y))) := fun k =>
            live_any w (w5.drewN k) x pb (bnd f f y y) b d G F s m v vs Ls R f y GX.out (A5.out.lives.drewN k) A5.out.cs A5.out.size A5.out.wait (A5.out.list.only ((Only.refl [] w5).drewN k) (fun _ _ hx => by cases hx)) A5.out.far (by omega) A5.out.bd A5.out.new A5.out.pbf
          have LV0 := LV.out 0
          have LV1 := LV.out 1
          go_cut [8, 11] (fun av ok wc => ok = .bool true ∧ After w wc R d pb (Ls.length + 60) x.keep av)
          case first =>
            refine wp_region_noPanic ?_
            refine wp_region_held_drew (S := fun _ => True) (by kernel_rfl) trivial (fun hHeld => ?_)
            refine take_ (i := 0) (v := ?_) 63 rfl rfl (by kernel_rfl) (by kernel_rfl) (by kernel_rfl) (fun _ _ _ h => h) (Or.inl ⟨by rfl, ?_⟩) (by assumption) ?_
            rotate_left
            · (intro wS hSw; (try dsimp only at hSw); go_simp; try with_reducible rfl)
            simp only [Act.put, List.setIfInBounds_toArray, List.set_cons_zero, List.set_cons_succ]
            refine take_ (i := 1) (v := ?_) 64 rfl rfl (by kernel_rfl) (by kernel_rfl) (by kernel_rfl) (fun _ _ _ h => h) (Or.inl ⟨by rfl, ?_⟩) (by assumption) ?_
            rotate_left
            · (intro wS hSw; (try dsimp only at hSw); go_simp; try with_reducible rfl)
            simp only [Act.put, List.setIfInBounds_toArray, List.set_cons_zero, List.set_cons_succ]
            refine take_ (i := 2) (v := ?_) 65 rfl rfl (by kernel_rfl) (by kernel_rfl) (by kernel_rfl) (fun _ _ _ h => h) (Or.inl ⟨by rfl, ?_⟩) (by assumption) ?_
            rotate_left
            · (intro wS hSw; (try dsimp only at hSw); go_simp; try with_reducible rfl)
            simp only [Act.put, List.setIfInBounds_toArray, List.set_cons_zero, List.set_cons_succ]
            refine take_ (i := 3) (v := ?_) 66 rfl rfl (by kernel_rfl) (by kernel_rfl) (by kernel_rfl) (fun _ _ _ h => h) (Or.inl ⟨by rfl, ?_⟩) (by assumption) ?_
            rotate_left
            · (intro wS hSw; (try dsimp only at hSw); go_simp; try with_reducible rfl)
            simp only [Act.put, List.setIfInBounds_toArray, List.set_cons_zero, List.set_cons_succ]
            refine take_ (i := 4) (v := ?_) 67 rfl rfl (by kernel_rfl) (by kernel_rfl) (by kernel_rfl) (fun _ _ _ h => h) (Or.inl ⟨by rfl, ?_⟩) (by assumption) ?_
            rotate_left
            · (intro wS hSw; (try dsimp only at hSw); go_simp; try with_reducible rfl)
            simp only [Act.put, List.setIfInBounds_toArray, List.set_cons_zero, List.set_cons_succ]
            refine take_ (i := 6) (v := ?_) 69 rfl rfl (by kernel_rfl) (by kernel_rfl) (by kernel_rfl) (fun _ _ _ h => h) (Or.inl ⟨by rfl, ?_⟩) (by assumption) ?_
            rotate_left
            · (intro wS hSw; (try dsimp only at hSw); go_simp; try with_reducible rfl)
            simp only [Act.put, List.setIfInBounds_toArray, List.set_cons_zero, List.set_cons_succ]
            refine two_ (i := 5) (j := 7) _ _ (by kernel_rfl) rfl rfl (fun K hK => ?_) (fun K hK => ?_)
            · go_simp
              refine hK.out _ _ trivial (fun hHeld => ?_)
              clear hK K
              refine one_ (i := 7) _ (by kernel_rfl) rfl (fun K hK => ?_)
              go_simp
              refine hK.out _ _ trivial (fun hHeld => ?_)
              clear hK K
              refine one_ (i := 8) _ (by kernel_rfl) rfl (fun K hK => ?_)
              go_simp
              refine (LV.out 1).mono ?_
              rintro e w6 ⟨v6, vs6, Ls6, f6, T6, y6, A6, m6, F6, rfl, hL, hz, hleft, hlist, hfar, hcnt, hbd, hpF⟩
              have L6 := Lib.hid hL
              have P6 : Hid (m6.dur.length = R + 1 ∧ Left m6 R (Ls6.map txts) f6 T6 y6 A6 ∧ ListAt w w6 v6 vs6 Ls6 ∧ (∀ z, v6.ownBlock = some z → z ∉ F6) ∧ Ls6.length ≤ Ls.length + 60 ∧ Held w6 pb 33 (bnd f f y y) ∧ pb ∉ F6) := ⟨hz, hleft, hlist, hfar, hcnt, hbd, hpF⟩
              clear hL hz hleft hlist hfar hcnt hbd hpF
              unfold bnd
              have q0 : w6.cell? ⟨pb, 0, none⟩ = some (.int .i64 (f : Int)) := P6.out.2.2.2.2.2.1.cell 0
              have q1 : w6.cell? ⟨pb, 1, none⟩ = some (.int .i64 (f : Int)) := P6.out.2.2.2.2.2.1.cell 1
              have q2 : w6.cell? ⟨pb, 2, none⟩ = some (.int .i64 (y : Int)) := P6.out.2.2.2.2.2.1.cell 2
              have q3 : w6.cell? ⟨pb, 3, none⟩ = some (.int .i64 (y : Int)) := P6.out.2.2.2.2.2.1.cell 3
              have z0 := P6.out.2.2.2.2.2.1.frozen 0
              have z1 := P6.out.2.2.2.2.2.1.frozen 1
              have z2 := P6.out.2.2.2.2.2.1.frozen 2
              have z3 := P6.out.2.2.2.2.2.1.frozen 3
              go_wp2_with fail
              refine hK.out _ _ trivial (fun hHeld => ?_)
              clear hK K
              refine take_ (i := 9) (v := ?_) 62 rfl rfl (by kernel_rfl) (by kernel_rfl) (by kernel_rfl) (fun _ _ _ h => h) (Or.inl ⟨by rfl, ?_⟩) (by assumption) ?_
              rotate_left
              · (intro wS hSw; (try dsimp only at hSw); go_simp; try with_reducible rfl)
              simp only [Act.put, List.setIfInBounds_toArray, List.set_cons_zero, List.set_cons_succ]
              refine take_ (i := 10) (v := ?_) 72 rfl rfl (by kernel_rfl) (by kernel_rfl) (by kernel_rfl) (fun _ _ _ h => h) (Or.inl ⟨by rfl, ?_⟩) (by assumption) ?_
              rotate_left
              · (intro wS hSw; (try dsimp only at hSw); go_simp; try with_reducible rfl)
              simp only [Act.put, List.setIfInBounds_toArray, List.set_cons_zero, List.set_cons_succ]
              refine take_ (i := 11) (v := ?_) 73 rfl rfl (by kernel_rfl) (by kernel_rfl) (by kernel_rfl) (fun _ _ _ h => h) (Or.inl ⟨by rfl, ?_⟩) (by assumption) ?_
              rotate_left
              · (intro wS hSw; (try dsimp only at hSw); go_simp; try with_reducible rfl)
              simp only [Act.put, List.setIfInBounds_toArray, List.set_cons_zero, List.set_cons_succ]
              refine take_ (i := 12) (v := ?_) 74 rfl rfl (by kernel_rfl) (by kernel_rfl) (by kernel_rfl) (fun _ _ _ h => h) (Or.inl ⟨by rfl, ?_⟩) (by assumption) ?_
              rotate_left
              · (intro wS hSw; (try dsimp only at hSw); go_simp; try with_reducible rfl)
              simp only [Act.put, List.setIfInBounds_toArray, List.set_cons_zero, List.set_cons_succ]
              refine take_ (i := 13) (v := ?_) 8 rfl rfl (by kernel_rfl) (by kernel_rfl) (by kernel_rfl) (fun _ _ _ h => h) (Or.inl ⟨by rfl, ?_⟩) (by assumption) ?_
              rotate_left
              · (intro wS hSw; (try dsimp only at hSw); go_simp; try with_reducible rfl)
              simp only [Act.put, List.setIfInBounds_toArray, List.set_cons_zero, List.set_cons_succ]
              refine one_ (i := 14) _ (by kernel_rfl) rfl (fun K hK => ?_)
              go_simp
              refine hK.out _ _ trivial (fun hHeld => ?_)
              clear hK K
              refine take_ (i := 15) (v := ?_) 11 rfl rfl (by kernel_rfl) (by kernel_rfl) (by kernel_rfl) (fun _ _ _ h => h) (Or.inl ⟨by rfl, ?_⟩) (by assumption) ?_
              rotate_left
              · (intro wS hSw; (try dsimp only at hSw); go_simp; try with_reducible rfl)
              simp only [Act.put, List.setIfInBounds_toArray, List.set_cons_zero, List.set_cons_succ]
              refine wpAnyH_done (by kernel_rfl) ?_ _
              refine NoPanic.normal ?_
              have ho : Only [pb] w6 ((((w6.setCell ⟨pb, 0, none⟩ (.int .i64 (f6 : Int))).setCell ⟨pb, 1, none⟩ (.int .i64 (T6 : Int))).setCell ⟨pb, 2, none⟩ (.int .i64 (y6 : Int))).setCell ⟨pb, 3, none⟩ (.int .i64 (A6 : Int))) := ((((Only.refl _ w6).setCell (.inl (by simp)) _).setCell (.inl (by simp)) _).setCell (.inl (by simp)) _).setCell (.inl (by simp)) _
              have X6 : Hid (After w ((((w6.setCell ⟨pb, 0, none⟩ (.int .i64 (f6 : Int))).setCell ⟨pb, 1, none⟩ (.int .i64 (T6 : Int))).setCell ⟨pb, 2, none⟩ (.int .i64 (y6 : Int))).setCell ⟨pb, 3, none⟩ (.int .i64 (A6 : Int))) R d pb (Ls.length + 60) x.keep v6) := by
                obtain ⟨h1, h2, h3, h4, h5, h6, h7⟩ := P6.out
                exact ⟨vs6, Ls6, f6, T6, y6, A6, m6, F6, ⟨L6.out.disk.only ho (fun z hz hm => by
                  obtain rfl : z = pb := by simpa using hm
                  exact h7 hz), L6.out.below.trans (ho.below L6.out.below.size (fun z hz => by
                  obtain rfl : z = pb := by simpa using hz
                  exact A5.out.new)), L6.out.new⟩, h1, h2, h3.only ho (fun z hz hm => by
                  obtain rfl : z = pb := by simpa using hm
                  exact h6.ne_row h3.row (by decide) z hz rfl), h4, h5, (((h6.set_ 0 (.int .i64 (f6 : Int))).set_ 1 (.int .i64 (T6 : Int))).set_ 2 (.int .i64 (y6 : Int))).set_ 3 (.int .i64 (A6 : Int)), h7⟩
              go_wp2_with fail
              go_meet
              case rel => exact ⟨rfl, X6.out⟩
            · go_simp
              refine hK.out _ _ trivial (fun hHeld => ?_)
              clear hK K
              refine one_ (i := 5) _ (by kernel_rfl) rfl (fun K hK => ?_)
              go_simp
              refine hK.out _ _ trivial (fun hHeld => ?_)
              clear hK K
              refine one_ (i := 8) _ (by kernel_rfl) rfl (fun K hK => ?_)
              go_simp
              refine (LV.out 1).mono ?_
              rintro e w6 ⟨v6, vs6, Ls6, f6, T6, y6, A6, m6, F6, rfl, hL, hz, hleft, hlist, hfar, hcnt, hbd, hpF⟩
              have L6 := Lib.hid hL
              have P6 : Hid (m6.dur.length = R + 1 ∧ Left m6 R (Ls6.map txts) f6 T6 y6 A6 ∧ ListAt w w6 v6 vs6 Ls6 ∧ (∀ z, v6.ownBlock = some z → z ∉ F6) ∧ Ls6.length ≤ Ls.length + 60 ∧ Held w6 pb 33 (bnd f f y y) ∧ pb ∉ F6) := ⟨hz, hleft, hlist, hfar, hcnt, hbd, hpF⟩
              clear hL hz hleft hlist hfar hcnt hbd hpF
              unfold bnd
              have q0 : w6.cell? ⟨pb, 0, none⟩ = some (.int .i64 (f : Int)) := P6.out.2.2.2.2.2.1.cell 0
              have q1 : w6.cell? ⟨pb, 1, none⟩ = some (.int .i64 (f : Int)) := P6.out.2.2.2.2.2.1.cell 1
              have q2 : w6.cell? ⟨pb, 2, none⟩ = some (.int .i64 (y : Int)) := P6.out.2.2.2.2.2.1.cell 2
              have q3 : w6.cell? ⟨pb, 3, none⟩ = some (.int .i64 (y : Int)) := P6.out.2.2.2.2.2.1.cell 3
              have z0 := P6.out.2.2.2.2.2.1.frozen 0
              have z1 := P6.out.2.2.2.2.2.1.frozen 1
              have z2 := P6.out.2.2.2.2.2.1.frozen 2
              have z3 := P6.out.2.2.2.2.2.1.frozen 3
              go_wp2_with fail
              refine hK.out _ _ trivial (fun hHeld => ?_)
              clear hK K
              refine take_ (i := 9) (v := ?_) 62 rfl rfl (by kernel_rfl) (by kernel_rfl) (by kernel_rfl) (fun _ _ _ h => h) (Or.inl ⟨by rfl, ?_⟩) (by assumption) ?_
              rotate_left
              · (intro wS hSw; (try dsimp only at hSw); go_simp; try with_reducible rfl)
              simp only [Act.put, List.setIfInBounds_toArray, List.set_cons_zero, List.set_cons_succ]
              refine take_ (i := 10) (v := ?_) 72 rfl rfl (by kernel_rfl) (by kernel_rfl) (by kernel_rfl) (fun _ _ _ h => h) (Or.inl ⟨by rfl, ?_⟩) (by assumption) ?_
              rotate_left
              · (intro wS hSw; (try dsimp only at hSw); go_simp; try with_reducible rfl)
              simp only [Act.put, List.setIfInBounds_toArray, List.set_cons_zero, List.set_cons_succ]
              refine take_ (i := 11) (v := ?_) 73 rfl rfl (by kernel_rfl) (by kernel_rfl) (by kernel_rfl) (fun _ _ _ h => h) (Or.inl ⟨by rfl, ?_⟩) (by assumption) ?_
              rotate_left
              · (intro wS hSw; (try dsimp only at hSw); go_simp; try with_reducible rfl)
              simp only [Act.put, List.setIfInBounds_toArray, List.set_cons_zero, List.set_cons_succ]
              refine take_ (i := 12) (v := ?_) 74 rfl rfl (by kernel_rfl) (by kernel_rfl) (by kernel_rfl) (fun _ _ _ h => h) (Or.inl ⟨by rfl, ?_⟩) (by assumption) ?_
              rotate_left
              · (intro wS hSw; (try dsimp only at hSw); go_simp; try with_reducible rfl)
              simp only [Act.put, List.setIfInBounds_toArray, List.set_cons_zero, List.set_cons_succ]
              refine take_ (i := 13) (v := ?_) 8 rfl rfl (by kernel_rfl) (by kernel_rfl) (by kernel_rfl) (fun _ _ _ h => h) (Or.inl ⟨by rfl, ?_⟩) (by assumption) ?_
              rotate_left
              · (intro wS hSw; (try dsimp only at hSw); go_simp; try with_reducible rfl)
              simp only [Act.put, List.setIfInBounds_toArray, List.set_cons_zero, List.set_cons_succ]
              refine one_ (i := 14) _ (by kernel_rfl) rfl (fun K hK => ?_)
              go_simp
              refine hK.out _ _ trivial (fun hHeld => ?_)
              clear hK K
              refine take_ (i := 15) (v := ?_) 11 rfl rfl (by kernel_rfl) (by kernel_rfl) (by kernel_rfl) (fun _ _ _ h => h) (Or.inl ⟨by rfl, ?_⟩) (by assumption) ?_
              rotate_left
              · (intro wS hSw; (try dsimp only at hSw); go_simp; try with_reducible rfl)
              simp only [Act.put, List.setIfInBounds_toArray, List.set_cons_zero, List.set_cons_succ]
              refine wpAnyH_done (by kernel_rfl) ?_ _
              refine NoPanic.normal ?_
              have ho : Only [pb] w6 ((((w6.setCell ⟨pb, 0, none⟩ (.int .i64 (f6 : Int))).setCell ⟨pb, 1, none⟩ (.int .i64 (T6 : Int))).setCell ⟨pb, 2, none⟩ (.int .i64 (y6 : Int))).setCell ⟨pb, 3, none⟩ (.int .i64 (A6 : Int))) := ((((Only.refl _ w6).setCell (.inl (by simp)) _).setCell (.inl (by simp)) _).setCell (.inl (by simp)) _).setCell (.inl (by simp)) _
              have X6 : Hid (After w ((((w6.setCell ⟨pb, 0, none⟩ (.int .i64 (f6 : Int))).setCell ⟨pb, 1, none⟩ (.int .i64 (T6 : Int))).setCell ⟨pb, 2, none⟩ (.int .i64 (y6 : Int))).setCell ⟨pb, 3, none⟩ (.int .i64 (A6 : Int))) R d pb (Ls.length + 60) x.keep v6) := by
                obtain ⟨h1, h2, h3, h4, h5, h6, h7⟩ := P6.out
                exact ⟨vs6, Ls6, f6, T6, y6, A6, m6, F6, ⟨L6.out.disk.only ho (fun z hz hm => by
                  obtain rfl : z = pb := by simpa using hm
                  exact h7 hz), L6.out.below.trans (ho.below L6.out.below.size (fun z hz => by
                  obtain rfl : z = pb := by simpa using hz
                  exact A5.out.new)), L6.out.new⟩, h1, h2, h3.only ho (fun z hz hm => by
                  obtain rfl : z = pb := by simpa using hm
                  exact h6.ne_row h3.row (by decide) z hz rfl), h4, h5, (((h6.set_ 0 (.int .i64 (f6 : Int))).set_ 1 (.int .i64 (T6 : Int))).set_ 2 (.int .i64 (y6 : Int))).set_ 3 (.int .i64 (A6 : Int)), h7⟩
              go_wp2_with fail
              go_meet
              case rel => exact ⟨rfl, X6.out⟩
          case rest =>
            obtain ⟨rfl, hX⟩ := hcut
            have XX := Lib.hid hX
            have HNB : Hid (w.heap.size ≤ pb) := A5.out.new
            clear hX A5 LV LV0 LV1 q0 q1 q2 q3 x0 x1 x2 BW E0 E1 E2 HL
            obtain ⟨vs6, Ls6, f6, T6, y6, A6, m6, F6, hL6, hz6, hleft, hlist, hfar, hcnt, hbd, hpF⟩ := XX.out
            obtain ⟨hbds, hkp⟩ := hleft
            obtain ⟨st, f7, y7, hf7, hy7, hfy, hyl, hFO⟩ := hkp x.keep
            rw [List.length_map] at hbds
            rw [List.length_map] at hyl
            have L6 := Lib.hid hL6
            have LI := Lib.hid hlist
            have BD := Lib.hid hbd
            have FO := Lib.hid hFO
            have Z6 : Hid ((m6.crash x.keep).dur.length = R + 1) := by
              show (Dsk.crashD m6.wait x.keep m6.dur).length = _
              rw [Dsk.crashD_length]
              exact hz6
            have OC : Hid (CS (openS 1 (R - 1) st (f7 + 1) y7 (((Ls6.map txts).take y7).drop f7)) (m6.crash x.keep) R ((Ls6.map txts).take y7) f7 y7) := CS.opened (by omega) RN.1 hz6 hfy (by rw [List.length_map]; exact hyl) (by rw [List.length_map]; omega) hFO
            have hcc : checkErr (m6.crash x.keep).dur.length ((1 : Nat) : Int) (R : Int) = 0 := by
              rw [Z6.out]
              unfold checkErr
              rw [if_neg (by omega)]
            have OP := Lib.hid (open_any wc d F6 (m6.crash x.keep) 1 R st (f7 + 1) y7 (((Ls6.map txts).take y7).drop f7) L6.out.disk hcc rfl hFO (by omega))
            have FA := Lib.hid hfar
            clear hL6 hz6 hlist hbd hFO hcc XX hfar hkp
            go_wp2_with fail
            refine (RA _).out.mono ?_
            rintro e w' ⟨rfl, rfl⟩
            go_wp2_with fail
            refine OP.out.mono ?_
            intro e w7 ho
            obtain ⟨b7, v7, vs7, G7, F7, rfl, hL, hO, hGr, hrows, _⟩ := ho.own L6.out
            have L7 := Lib.hid hL
            have R7 := Lib.hid hrows
            have B7 : Hid (Held w7 pb 33 (bnd f6 T6 y6 A6) ∧ pb ∉ G7 ++ F7) := ⟨BD.out.only hO hpF, fun hm => by
              rcases hGr pb hm with h1 | h1
              · exact hpF h1
              · have := BD.out.lt; omega⟩
            have T7 : Hid (ListAt w w7 u8 vs6 Ls6 ∧ ∀ z, u8.ownBlock = some z → z ∉ G7 ++ F7) := ⟨LI.out.only hO FA.out, fun z hz hm => by
              rcases hGr z hm with h1 | h1
              · exact FA.out z hz h1
              · have := (LI.out.row.lt z hz).2; omega⟩
            clear ho hL hO hGr hrows OP L6 LI BD FA
            obtain ⟨vn, hlog, _⟩ := L7.out.ld.log
            have FI := Lib.hid (first_any w7 b7 d vn _ hlog)
            have hlk : (((Ls6.map txts).take y7).drop f7).length = y7 - f7 := by rw [List.length_drop, List.length_take, List.length_map]; omega
            have LA := Lib.hid (last_any w7 b7 d vn _ hlog (by show f7 + 1 ≤ _; omega) (by show (List.length (List.map need _)) ≤ _; rw [List.length_map, hlk]; omega))
            have el : (openS 1 (R - 1) st (f7 + 1) y7 (((Ls6.map txts).take y7).drop f7)).last = (y7 : Int) := by
              rw [OC.out.last, List.length_take, List.length_map]
              omega
            have ef : (((openS 1 (R - 1) st (f7 + 1) y7 (((Ls6.map txts).take y7).drop f7)).first : Nat) : Int) = (f7 : Int) + 1 := by
              show ((f7 + 1 : Nat) : Int) = _
              omega
            rw [el] at LA
            rw [ef] at FI
            clear hlog el ef
            go_wp2_with fail
            refine FI.out.mono ?_
            rintro e w' ⟨rfl, rfl⟩
            go_wp2_with fail
            refine LA.out.mono ?_
            rintro e w8 ⟨rfl, q8, hw8⟩
            have L8 : Hid (LLives w w8 b7 G7 (openS 1 (R - 1) st (f7 + 1) y7 (((Ls6.map txts).take y7).drop f7)) d F7 (m6.crash x.keep)) := by rw [hw8]; exact L7.out.drewN q8
            have B8 : Hid (Held w8 pb 33 (bnd f6 T6 y6 A6) ∧ pb ∉ G7 ++ F7) := by rw [hw8]; exact B7.out
            have T8 : Hid (ListAt w w8 u8 vs6 Ls6 ∧ ∀ z, u8.ownBlock = some z → z ∉ G7 ++ F7) := by rw [hw8]; exact ⟨T7.out.1.only ((Only.refl [] w7).drewN q8) (fun _ _ hx => by cases hx), T7.out.2⟩
            have hgd : ∀ B ∈ ((Ls6.map txts).take y7).drop f7, ((∀ r ∈ B, r.length ≤ 4611686018427387904) ∧ ∀ r ∈ B, ∀ x ∈ r, x < 256) ∧ B.length ≤ 1024 := fun B hB => by
              obtain ⟨k, hk⟩ := List.mem_iff_getElem?.1 hB
              have hg1 := (FO.out.lies k B hk).good
              unfold Wal.good at hg1
              simp only [Bool.and_eq_true, decide_eq_true_eq, List.all_eq_true] at hg1
              exact ⟨⟨fun r hr => by have := hg1.1.1 r hr; omega, (FO.out.lies k B hk).bytes⟩, hg1.2⟩
            have TG := Lib.hid (R7.out.texts (fun B hB => (hgd B hB).1))
            have HGD := Lib.hid hgd
            obtain ⟨A7, c7, hv7⟩ := own_slice R7.out.row
            rw [hlk] at hv7
            have TG8 : Hid (TextsR w8 v7 ((((Ls6.map txts).take y7).drop f7).map toStrs)) := by rw [hw8]; exact TG.out.drewN q8
            have HLK := Lib.hid hlk
            clear hgd TG hlk
            clear hw8 L7 B7 T7 FI LA R7 FO
            have q0 : w8.cell? ⟨pb, 0, none⟩ = some (.int .i64 (f6 : Int)) := B8.out.1.cell 0
            have q1 : w8.cell? ⟨pb, 1, none⟩ = some (.int .i64 (T6 : Int)) := B8.out.1.cell 1
            have q2 : w8.cell? ⟨pb, 2, none⟩ = some (.int .i64 (y6 : Int)) := B8.out.1.cell 2
            have q3 : w8.cell? ⟨pb, 3, none⟩ = some (.int .i64 (A6 : Int)) := B8.out.1.cell 3
            obtain ⟨vn, hlog, _⟩ := L8.out.ld.log
            have SY := synced_any w8 b7 d vn _ hlog
            have es : (((openS 1 (R - 1) st (f7 + 1) y7 (((Ls6.map txts).take y7).drop f7)).synced : Nat) : Int) = (y7 : Int) := rfl
            rw [es] at SY
            have SY := Lib.hid SY
            have HF7 := Lib.hid hf7
            have HY7 := Lib.hid hy7
            have HFY : Hid (f7 ≤ y7 ∧ y7 ≤ Ls6.length) := ⟨hfy, hyl⟩
            have HCN : Hid (Ls6.length ≤ 60 * (i + 1) ∧ Ls6.length ≤ 780) := ⟨by omega, by omega⟩
            have kb1 : (f7 : Int) ≤ 780 := by omega
            have kb2 : (y7 : Int) ≤ 780 := by omega
            have kb3 : (f6 : Int) ≤ 780 := by omega
            have kb4 : (T6 : Int) ≤ 780 := by omega
            have kb5 : (y6 : Int) ≤ 780 := by omega
            have kb6 : (A6 : Int) ≤ 780 := by omega
            clear hlog hf7 hy7 es hbds hfy hyl hcnt
            go_upto_region 23 with fail
            go_cut [124] (fun c wx => c = .bool false ∧ w8 = wx)
            case first =>
              by_cases e1 : f7 = f6
              · subst e1
                by_cases e2 : y7 = y6
                · subst e2
                  go_wp2_with fail
                  refine SY.out.mono ?_
                  rintro e w' ⟨rfl, rfl⟩
                  go_wp2_with fail
                  go_meet
                  case rel => exact ⟨rfl, rfl⟩
                · obtain rfl := HY7.out.resolve_left e2
                  have n2 : (((y7 : Nat) : Int) != (y6 : Int)) = true := by simp; omega
                  go_wp2_with fail
                  refine SY.out.mono ?_
                  rintro e w' ⟨rfl, rfl⟩
                  go_wp2_with fail
                  go_meet
                  case rel => exact ⟨rfl, rfl⟩
              · obtain rfl := HF7.out.resolve_left e1
                have n1 : (((f7 : Nat) : Int) + 1 != (f6 : Int) + 1) = true := by simp; omega
                by_cases e2 : y7 = y6
                · subst e2
                  go_wp2_with fail
                  refine SY.out.mono ?_
                  rintro e w' ⟨rfl, rfl⟩
                  go_wp2_with fail
                  go_meet
                  case rel => exact ⟨rfl, rfl⟩
                · obtain rfl := HY7.out.resolve_left e2
                  have n2 : (((y7 : Nat) : Int) != (y6 : Int)) = true := by simp; omega
                  go_wp2_with fail
                  refine SY.out.mono ?_
                  rintro e w' ⟨rfl, rfl⟩
                  go_wp2_with fail
                  go_meet
                  case rel => exact ⟨rfl, rfl⟩
            case rest =>
              obtain ⟨rfl, rfl⟩ := hcut
              clear q0 q1 q2 q3 SY HF7 HY7
              obtain ⟨A8, c8, hv8⟩ := own_slice T8.out.1.row
              subst hv8
              go_upto_region 26 with fail
              obtain ⟨w9, hw9⟩ : ∃ w9, w9 = w8.alloc (.cells #[.int .i64 0, .slice A8 Ls6.length c8, .int .i64 0, .int .i64 0] 46) := ⟨_, rfl⟩
              obtain ⟨r, hr⟩ : ∃ r, r = w8.heap.size := ⟨_, rfl⟩
              have hb9 : Below w8.heap.size w8 w9 := by rw [hw9]; exact (Below.refl _ _).alloc (Nat.le_refl _) _
              have HR : Hid (Held w9 r 46 #[.int .i64 0, .slice A8 Ls6.length c8, .int .i64 0, .int .i64 0]) := by rw [hw9]; exact Held.new _ _ _ hr
              have L9 := Lib.hid (L8.out.under hb9)
              have B9 : Hid (Held w9 pb 33 (bnd f6 T6 y6 A6) ∧ pb ∉ G7 ++ F7) := ⟨B8.out.1.only (Only.of_below (F := []) hb9) (fun hx => by cases hx), B8.out.2⟩
              have T9 : Hid (ListAt w w9 (.slice A8 Ls6.length c8) vs6 Ls6 ∧ ∀ z, (Value.slice A8 Ls6.length c8).ownBlock = some z → z ∉ G7 ++ F7) := ⟨T8.out.1.only (Only.of_below (F := []) hb9) (fun _ _ hx => by cases hx), T8.out.2⟩
              have TG9 := Lib.hid (TG8.out.below hb9)
              rw [← hw9, ← hr]
              clear hw9 hr hb9 L8 B8 T8 TG8
              have TD : Hid (Calls Try.prog 14 #[.pointer (some ⟨r, 0, none⟩), v7, .int .i64 ((f7 : Int) + 1), .int .i64 (y7 : Int)] w9 fun e w' => e = .returned (.bool true) ∧ ∃ n, w' = w9.drewN n) := by
                have h9 := told_any' w9 r v7 (.slice A8 Ls6.length c8) ((((Ls6.map txts).take y7).drop f7).map toStrs) Ls6 (f7 + 1) y7 (HR.out.cell 1) TG9.out (T9.out.1.texts L9.out.below) (by rw [List.length_map, HLK.out]; have := HFY.out; omega) (by omega) HFY.out.2 (by have := HCN.out; omega)
                  (fun j t ht => by
                    rw [List.getElem?_map, List.getElem?_drop] at ht
                    rw [Nat.add_sub_cancel]
                    obtain ⟨B, hB, rfl⟩ := Option.map_eq_some_iff.1 ht
                    rw [List.getElem?_take] at hB
                    split at hB
                    · rw [List.getElem?_map] at hB
                      obtain ⟨l9, hl9, rfl⟩ := Option.map_eq_some_iff.1 hB
                      rw [toStrs_txts]
                      exact hl9
                    · cases hB)
                  (fun t ht => by
                    obtain ⟨B, hB, rfl⟩ := List.mem_map.1 ht
                    have := (HGD.out B hB).2
                    unfold toStrs
                    rw [List.length_map]
                    omega)
                have e : (((f7 + 1 : Nat)) : Int) = (f7 : Int) + 1 := by omega
                rw [e] at h9
                exact Lib.hid h9
              have hcap : y7 ≤ c8 := by
                have h1 := HFY.out.2
                rcases T9.out.1.row.2 with ⟨_, h0⟩ | ⟨g9, cap, cur, h2, _, _, h3, _⟩
                · omega
                · injection h2 with _ _ h2
                  omega
              have HCAP := Lib.hid hcap
              subst hv7
              clear hcap
              go_wp2_with fail
              refine TD.out.mono ?_
              rintro e wA ⟨rfl, q, hw⟩
              have LA := Lib.hid (L9.out.drewN q)
              have BA : Hid (Held wA pb 33 (bnd f6 T6 y6 A6) ∧ pb ∉ G7 ++ F7) := by rw [hw]; exact B9.out
              have TA : Hid (ListAt w wA (.slice A8 Ls6.length c8) vs6 Ls6 ∧ ∀ z, (Value.slice A8 Ls6.length c8).ownBlock = some z → z ∉ G7 ++ F7) := by rw [hw]; exact ⟨T9.out.1.only ((Only.refl [] w9).drewN q) (fun _ _ hx => by cases hx), T9.out.2⟩
              rw [← hw] at LA
              clear hw TD L9 B9 T9 TG9 HR HGD HLK
              have q0 : wA.cell? ⟨pb, 0, none⟩ = some (.int .i64 (f6 : Int)) := BA.out.1.cell 0
              have q2 : wA.cell? ⟨pb, 2, none⟩ = some (.int .i64 (y6 : Int)) := BA.out.1.cell 2
              have z0 := BA.out.1.frozen 0
              have z2 := BA.out.1.frozen 2
              have hcap := HCAP.out
              have hcap' : (y7 : Int) ≤ (c8 : Int) := by omega
              have ho : Only [pb] wA ((wA.setCell ⟨pb, 0, none⟩ (.int .i64 (f7 : Int))).setCell ⟨pb, 2, none⟩ (.int .i64 (y7 : Int))) := ((Only.refl _ wA).setCell (.inl (by simp)) _).setCell (.inl (by simp)) _
              have hlT : (Ls6.take y7).length = y7 := by rw [List.length_take]; have := HFY.out; omega
              have AT : Hid (At w ((wA.setCell ⟨pb, 0, none⟩ (.int .i64 (f7 : Int))).setCell ⟨pb, 2, none⟩ (.int .i64 (y7 : Int))) R (i + 1) b7 G7 (openS 1 (R - 1) st (f7 + 1) y7 (((Ls6.map txts).take y7).drop f7)) d F7 (m6.crash x.keep) (.slice A8 y7 c8) (vs6.take y7) (Ls6.take y7) f7 y7 pb T6 A6) := by
                refine ⟨LA.out.own ho (fun z hz => ?_), by rw [List.map_take]; exact OC.out, Z6.out, rfl, (TA.out.1.only ho (fun z hz hm => ?_)).cut HFY.out.2, (fun z hz => TA.out.2 z (by revert hz; cases A8 <;> exact id)), by rw [hlT]; have h1 := HCN.out; have h2 := HFY.out; omega, (BA.out.1.set_ 0 (.int .i64 (f7 : Int))).set_ 2 (.int .i64 (y7 : Int)), HNB.out, BA.out.2⟩
                · obtain rfl : z = pb := by simpa using hz
                  exact ⟨HNB.out, BA.out.2⟩
                · obtain rfl : z = pb := by simpa using hm
                  exact BA.out.1.ne_row TA.out.1.row (by decide) z hz rfl
              clear ho hlT
              go_wp2_with fail
              go_roundw
              case rel => exact ⟨i + 1, b7, G7, _, F7, _, _, vs6.take y7, Ls6.take y7, f7, y7, T6, A6, by omega, by go_num, rfl, rfl, AT.out⟩
              case measure => simp [intOf]; omega
      · obtain rfl : i = N := by omega
        have BW := Lib.hid AA.out.lives.below
        go_wp2_with fail
        go_ret
        exact ⟨rfl, BW.out⟩
set_option maxRecDepth 100000 in
theorem opens {H : Type} {enc : TypeId × Value → H} {W : World} {base : Nat} {args : Array Value} {ds : List (DataW H)} {p : List MemPlace}
    (hval : ∀ (j : Nat) t v, Try.f3.params[j]? = some t → args[j]? = some v → Value.okWide Try.prog W .any base t v)
    (hA : DataW.TrodAll enc Try.prog W 0 (fun _ => true) true Try.f3.params.toList args.toList ds p) (hlt : ∀ x ∈ p, x.block < W.heap.size) (hsz : (DataW.weightsEach Try.prog Try.f3.params.toList ds).all (· ≤ reachBytes) = true) :
    Calls Try.prog 3 args W fun e W' => e = .returned (.bool true) ∧ Below W.heap.size W W' := by
  rw [Try.params3] at hA hval hsz
  obtain ⟨v0, vs0, d0, ds0, p0, q0, hargs, rfl, rfl, h0, r0⟩ := trodAll_cons hA
  obtain ⟨v1, vs1, d1, ds1, p1, q1, rfl, rfl, rfl, h1, r1⟩ := trodAll_cons r0
  obtain ⟨rfl, rfl, rfl⟩ := trodAll_nil r1
  obtain rfl : args = #[v0, v1] := by cases args; simp_all
  obtain ⟨n, rfl, hn⟩ := open_u8 (hval 0 5 v0 rfl rfl) h0
  obtain ⟨A, N, c, l, rfl, hl, hN⟩ := open_wlives (hval 1 22 v1 rfl rfl) h1 (small_args hsz (j := 1) rfl rfl)
  exact walk n hn A N c l W hl hN

set_option maxRecDepth 100000 in
theorem lifted (os : Os) (started : os.Started) (H : Type) (enc : TypeId × Value → H) :
    ReturnsInHanded {} Try.checked os 3 .any (Rows.walCrashSpec.pre6 enc Try.prog Try.f3 Rows.walCrashRow.domain false) (Rows.walCrashSpec.post enc Try.prog Try.f3 false true false false) := by
  refine returnsInHanded_of_change_sized (C := Try.checked) own started (by kernel_rfl) Try.func3
    (ChangeSpec.witness6 (enc := enc) (C := Try.checked) false ⟨#[], #[.int .u8 0, .slice none 0 0], []⟩ 8 (by kernel_rfl) (by kernel_rfl) (by kernel_rfl) (by kernel_rfl)) ?_
  intro W base args ds gs before hval hW _ hsz0 _
  refine law_calls laidOut Try.underlying4 rfl (by rw [Try.params3]; exact of_decide_eq_true (by kernel_rfl)) rfl (fun ds h => by match ds, h with | [_, _], _ => rfl) hW ?_
  obtain ⟨rfl, p, hA, hlt⟩ := law_args rfl hW
  have hsz : (DataW.weightsEach Try.prog (Try.f3.params.toList ++ []) (ds ++ [])).all (· ≤ reachBytes) = true := hsz0
  rw [List.append_nil, List.append_nil] at hsz
  exact opens hval hA hlt hsz

theorem over : Rows.walCrashRow.holds Try.pinned (OpenSpec.ofChange Rows.walCrashSpec) :=
  OpenClaim.holds_of_wide 3 Try.f3 rfl rfl rfl rfl rfl rfl rfl ⟨rfl, rfl, rfl, rfl, rfl⟩ rfl rfl rfl rfl rfl (by kernel_rfl) Try.func3 (by kernel_rfl)
    (of_decide_eq_true (by kernel_rfl)) (by unfold Func.isWrapper; first | (rw [if_pos (by decide +kernel)]; kernel_rfl) | (rw [if_neg (by decide +kernel)]; exact ⟨rfl, rfl⟩))
    (fun os started H enc _ => lifted os started H enc)

theorem proved : Rows.WalCrashSaid := over

end Go.Proofs.Ytgbilhfpogdfeaa.walCrash
