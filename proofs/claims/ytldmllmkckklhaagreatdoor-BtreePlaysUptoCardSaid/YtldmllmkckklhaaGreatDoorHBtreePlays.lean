/-
  BtreePlays: whatever is put, deleted, asked and scanned, each answer is the one that the chapter says; the tree takes no more blocks than twice its keys, and just those that it tells. The arguments hold at most 1048576 values and letters together (the Upto form).
-/
import Derived.Test.YtldmllmkckklhaaGreatDoorQA83
namespace Go.Proofs.YtldmllmkckklhaaGreatDoor.btreePlays
open Go.ChangeShapes Go.WideShapes Go.ChangeAt Go.RowKit Wal

set_option maxRecDepth 100000 in
set_option maxHeartbeats 6400000 in
theorem walk (hsort : SortOk) (w : World) (A1 : Option Addr) (n1 c1 : Nat) (l1 : Nat → OT) (h1 : OpsAt w A1 n1 l1) (hn1 : n1 ≤ 9223372036854775807) :
    Calls Tryz.prog 3 #[.slice A1 n1 c1] w fun e w' => e = .returned (.bool true) ∧ Below w.heap.size w w' := by
  have H1 := Lib.hid h1
  have SRT := Lib.hid hsort
  have FX := Lib.hid (fixed_any w)
  have BIG : Hid (∀ w1, Below w.heap.size w w1 → Calls Tryz.prog 8 #[] w1 fun x w' => x = .returned (.bool true) ∧ Below w.heap.size w w') := fun w1 hb => (fixed_any w1).mono fun x w' ⟨e, h⟩ => ⟨e, hb.trans (h.mono hb.size)⟩
  clear h1 hsort
  by_cases hl1 : n1 ≤ 2000
  · have i1 : ¬ (2000 : Int) < (n1 : Int) := by omega
    have L1 : Hid (n1 ≤ 2000) := hl1
    clear hn1 hl1 BIG
    go_enter Tryz.func3, Tryz.ntmps3
    go_wp2_with fail
    refine FX.out.mono ?_
    rintro e w1 ⟨rfl, hb1⟩
    have B1 := Lib.hid hb1
    have NM := Lib.hid (newmem_any w.heap.size w1 B1.out.size 4096)
    clear hb1 FX
    go_wp2_with fail
    refine NM.out.mono ?_
    rintro e w2 ⟨p, rfl, hp, hm2, hb2⟩
    have B2 : Hid (Below w.heap.size w w2) := B1.out.trans (hb2.mono B1.out.size)
    have M2 : Hid (MemAt w.heap.size w2 p 4096 fun _ => none) := hm2
    have OP : Hid (Calls Tryz.prog 10 #[.iface 24 (.pointer (some ⟨p, 0, none⟩)), .int .i64 0] w2 fun x w' => ∃ t, x = .returned (.pointer (some ⟨t, 0, none⟩)) ∧ w2.heap.size ≤ t ∧ TreeO w' t p 0 ∧ Below w2.heap.size w2 w') := open_any w2 p 0
    clear hb2 hm2 hp NM B1
    go_wp2_with fail
    refine OP.out.mono ?_
    rintro e w3 ⟨t, rfl, ht, hT, hb3⟩
    obtain ⟨r, hr⟩ : ∃ r, r = w3.heap.size := ⟨_, rfl⟩
    obtain ⟨w4, hw4⟩ : ∃ w4, w4 = w3.alloc (.cells #[.slice none 0 0] 31) := ⟨_, rfl⟩
    have U4 : Below w3.heap.size w3 w4 := by rw [hw4]; exact (Below.refl _ _).alloc (Nat.le_refl _) _
    have B3 : Hid (Below w.heap.size w w3) := B2.out.trans (hb3.mono B2.out.size)
    have B4 : Hid (Below w.heap.size w w4) := B3.out.trans (U4.mono B3.out.size)
    have BO : Hid (Both w.heap.size w4 t p 4096 r [] [] fun _ => none) := by
      have L := (live_new hT (M2.out.under hb3) (Nat.le_refl _) (Nat.le_trans B2.out.size ht)).under U4
      refine ⟨⟨0, _, [], L, Full.none_ _, by simp⟩, ⟨none, 0, ?_, OwnP.nil _ _⟩, by rw [hr]; exact B3.out.size⟩
      rw [hw4]
      exact Held.new _ _ _ hr
    have HW4 := Lib.hid hw4
    have HR := Lib.hid hr
    clear ht hT hb3 OP M2 B2 hr hw4 U4
    go_upto_region 5 with fail
    rw [← HW4.out, ← HR.out]
    go_wp2_with fail
    go_loopw [6] (fun vi wr => ∃ (i : Nat) (es : List En), i ≤ n1 ∧ vi = .int .i64 i ∧ Hid (Both w.heap.size wr t p 4096 r es [] (fun _ => none) ∧ es.length ≤ i ∧ Below w.heap.size w wr)) (fun vi _ => n1 - (intOf vi).toNat)
    case atStart => exact ⟨0, [], by omega, rfl, BO.out, Nat.le_refl _, B4.out⟩
    case round =>
      clear BO B4 B3
      obtain ⟨i, es, hi, rfl, G⟩ := hrel
      have ln := L1.out
      by_cases hlt : i < n1
      · have UD : Below wr.heap.size wr wr.drew := (Below.refl _ _).drew
        obtain ⟨wd, hwd⟩ : ∃ wd, wd = wr.drew := ⟨_, rfl⟩
        rw [← hwd] at UD
        have GB : Hid (Below w.heap.size w wd) := G.out.2.2.trans (UD.mono G.out.2.2.size)
        obtain ⟨b, off, rfl, hb, x0, x1, x2, x3⟩ := (H1.out.kept GB.out).get hlt
        have HBB : Hid (b < w.heap.size) := by
          obtain ⟨b', off', e, hb', _⟩ := H1.out.get hlt
          injection e with e
          injection e with e1 _
          show b < _
          rw [e1]
          exact hb'
        have ST := Lib.hid (step_any w.heap.size wd t p 4096 r es [] (fun _ => none) (G.out.1.under UD) (by have := G.out.2.1; omega) (by have := G.out.2.1; simp only [List.length_nil]; omega) (l1 i) (H1.out.1 i hlt))
        have SL : Hid ((stepE es (l1 i)).length ≤ i + 1) := Nat.le_trans (stepE_length G.out.1.rises (l1 i)) (by have := G.out.2.1; omega)
        unfold OT.cells at ST
        have im : (i : Int) < (n1 : Int) := by omega
        have lim : (i : Int) ≤ 2000 := by omega
        have HWD := Lib.hid hwd
        obtain ⟨es', hes'⟩ : ∃ x, x = stepE es (l1 i) := ⟨_, rfl⟩
        rw [← hes'] at ST SL
        generalize (l1 i).kind = kd at *
        generalize (l1 i).key = ky at *
        generalize (l1 i).val = vl at *
        generalize (l1 i).most = mo at *
        have sx : wd.cell? ⟨b, off + i * 4, none⟩ = some (.int .u8 (kd : Int)) ∧ wd.cell? ⟨b, off + i * 4 + 1, none⟩ = some (.string (strB ky)) ∧ wd.cell? ⟨b, off + i * 4 + 2, none⟩ = some (.string (strB vl)) ∧ wd.cell? ⟨b, off + i * 4 + 3, none⟩ = some (.int .i64 mo) := ⟨x0, x1, x2, x3⟩
        clear hlt ln hwd UD G hes'
        go_upto_region 8 with fail
        refine wp_region_noPanic ?_
        refine wp_region_held_drew (S := fun w' => w'.cell? ⟨b, off + i * 4, none⟩ = some (.int .u8 (kd : Int)) ∧ w'.cell? ⟨b, off + i * 4 + 1, none⟩ = some (.string (strB ky)) ∧ w'.cell? ⟨b, off + i * 4 + 2, none⟩ = some (.string (strB vl)) ∧ w'.cell? ⟨b, off + i * 4 + 3, none⟩ = some (.int .i64 mo)) (by kernel_rfl) (by rw [← HWD.out]; exact sx) (fun hHeld => ?_)
        rw [← HWD.out]
        refine take_ (i := 0) (v := ?_) 33 rfl rfl (by kernel_rfl) (by kernel_rfl) (by kernel_rfl) (fun _ _ _ h => h) (Or.inl ⟨by rfl, ?_⟩) (by assumption) ?_
        rotate_left
        · (intro wS hSw; (try dsimp only at hSw); go_simp; try with_reducible rfl)
        simp only [Act.put, List.setIfInBounds_toArray]
        refine take_ (i := 1) (v := ?_) 34 rfl rfl (by kernel_rfl) (by kernel_rfl) (by kernel_rfl) (fun _ _ _ h => h) (Or.inl ⟨by rfl, ?_⟩) (by assumption) ?_
        rotate_left
        · (intro wS hSw; (try dsimp only at hSw); go_simp; try with_reducible rfl)
        simp only [Act.put, List.setIfInBounds_toArray]
        refine take_ (i := 2) (v := ?_) 35 rfl rfl (by kernel_rfl) (by kernel_rfl) (by kernel_rfl) (fun _ _ _ h => h) (Or.inl ⟨by rfl, ?_⟩) (by assumption) ?_
        rotate_left
        · (intro wS hSw; (try dsimp only at hSw); go_simp; try with_reducible rfl)
        simp only [Act.put, List.setIfInBounds_toArray]
        refine take_ (i := 3) (v := ?_) 36 rfl rfl (by kernel_rfl) (by kernel_rfl) (by kernel_rfl) (fun _ _ _ h => h) (Or.inl ⟨by rfl, ?_⟩) (by assumption) ?_
        rotate_left
        · (intro wS hSw; (try dsimp only at hSw); go_simp; try with_reducible rfl)
        simp only [Act.put, List.setIfInBounds_toArray]
        refine take_ (i := 4) (v := ?_) 37 rfl rfl (by kernel_rfl) (by kernel_rfl) (by kernel_rfl) (fun _ _ _ h => h) (Or.inl ⟨by rfl, ?_⟩) (by assumption) ?_
        rotate_left
        · (intro wS hSw; (try dsimp only at hSw); go_simp; try with_reducible rfl)
        simp only [Act.put, List.setIfInBounds_toArray]
        refine take_ (i := 5) (v := ?_) 38 rfl rfl (by kernel_rfl) (by kernel_rfl) (by kernel_rfl) (fun _ _ _ h => h) (Or.inl ⟨by rfl, ?_⟩) (by assumption) ?_
        rotate_left
        · (intro wS hSw; (try dsimp only at hSw); go_simp; try with_reducible rfl)
        simp only [Act.put, List.setIfInBounds_toArray]
        refine one_ (i := 6) _ (by kernel_rfl) rfl (fun K hK => ?_)
        go_simp
        refine ST.out.mono ?_
        rintro e w5 ⟨rfl, hBo, hK⟩
        dsimp only
        have B5 : Hid (Below w.heap.size w w5) := GB.out.trans (hK.below GB.out.size)
        have K5 := hK.below GB.out.size
        have sy : w5.cell? ⟨b, off + i * 4, none⟩ = some (.int .u8 (kd : Int)) ∧ w5.cell? ⟨b, off + i * 4 + 1, none⟩ = some (.string (strB ky)) ∧ w5.cell? ⟨b, off + i * 4 + 2, none⟩ = some (.string (strB vl)) ∧ w5.cell? ⟨b, off + i * 4 + 3, none⟩ = some (.int .i64 mo) := ⟨(K5.cell (p := ⟨b, off + i * 4, none⟩) HBB.out).trans sx.1, (K5.cell (p := ⟨b, off + i * 4 + 1, none⟩) HBB.out).trans sx.2.1, (K5.cell (p := ⟨b, off + i * 4 + 2, none⟩) HBB.out).trans sx.2.2.1, (K5.cell (p := ⟨b, off + i * 4 + 3, none⟩) HBB.out).trans sx.2.2.2⟩
        obtain ⟨root5, f5, bs5, L5, F5, _⟩ := hBo.tree
        obtain ⟨A5, c5, R5⟩ := hBo.ref
        have US := Lib.hid (used_any w.heap.size w5 p 4096 f5 L5.mem)
        obtain ⟨cn, hcn⟩ : ∃ x, x = cnt 4096 f5 := ⟨_, rfl⟩
        rw [← hcn] at US
        obtain ⟨m5, hm5⟩ : ∃ x, x = es'.length := ⟨_, rfl⟩
        have u1 : ¬ 2 * (m5 : Int) < (cn : Int) := by
          have q1 := F5.cnt
          have q2 := L5.lies.few
          simp only [List.length_nil] at q1
          omega
        have u2 : (m5 : Int) ≤ 2001 := by have := SL.out; omega
        have wm : IntKind.i64.wrap (2 * (m5 : Int)) = 2 * (m5 : Int) := by rw [IntKind.wrap_i64]; omega
        have r5 := R5.blk.cell 0
        have rl := R5.blk.lt
        rw [← hm5] at r5
        have RB := Lib.hid R5.blk
        rw [← hm5] at RB
        have BO := Lib.hid hBo
        clear hBo hK ST x0 x1 x2 x3 hb L5 F5 R5 hcn hm5 K5
        refine hK.out _ _ sy (fun hHeld => ?_)
        clear hK K
        refine wpAnyH_strong (S' := fun w' => (w'.cell? ⟨b, off + i * 4, none⟩ = some (.int .u8 (kd : Int)) ∧ w'.cell? ⟨b, off + i * 4 + 1, none⟩ = some (.string (strB ky)) ∧ w'.cell? ⟨b, off + i * 4 + 2, none⟩ = some (.string (strB vl)) ∧ w'.cell? ⟨b, off + i * 4 + 3, none⟩ = some (.int .i64 mo)) ∧ w'.cell? ⟨r, 0, none⟩ = some (.slice A5 m5 c5)) (fun _ h => h.1) _ _ _ _ ?_
        have hH5 : (w5.cell? ⟨b, off + i * 4, none⟩ = some (.int .u8 (kd : Int)) ∧ w5.cell? ⟨b, off + i * 4 + 1, none⟩ = some (.string (strB ky)) ∧ w5.cell? ⟨b, off + i * 4 + 2, none⟩ = some (.string (strB vl)) ∧ w5.cell? ⟨b, off + i * 4 + 3, none⟩ = some (.int .i64 mo)) ∧ w5.cell? ⟨r, 0, none⟩ = some (.slice A5 m5 c5) := ⟨sy, r5⟩
        refine take_ (i := 7) (v := ?_) 40 rfl rfl (by kernel_rfl) (by kernel_rfl) (by kernel_rfl) (fun _ _ _ h => h) (Or.inl ⟨by rfl, ?_⟩) (by assumption) ?_
        rotate_left
        · (intro wS hSw; (try dsimp only at hSw); go_simp; try with_reducible rfl)
        simp only [Act.put, List.setIfInBounds_toArray]
        refine take_ (i := 8) (v := ?_) 41 rfl rfl (by kernel_rfl) (by kernel_rfl) (by kernel_rfl) (fun _ _ _ h => h) (Or.inl ⟨by rfl, ?_⟩) (by assumption) ?_
        rotate_left
        · (intro wS hSw; (try dsimp only at hSw); go_simp; try with_reducible rfl)
        simp only [Act.put, List.setIfInBounds_toArray]
        refine take_ (i := 9) (v := ?_) 42 rfl rfl (by kernel_rfl) (by kernel_rfl) (by kernel_rfl) (fun _ _ _ h => h) (Or.inl ⟨by rfl, ?_⟩) (by assumption) ?_
        rotate_left
        · (intro wS hSw; (try dsimp only at hSw); go_simp; try with_reducible rfl)
        simp only [Act.put, List.setIfInBounds_toArray]
        refine take_ (i := 11) (v := ?_) 44 rfl rfl (by kernel_rfl) (by kernel_rfl) (by kernel_rfl) (fun _ _ _ h => h) (Or.inl ⟨by rfl, ?_⟩) (by assumption) ?_
        rotate_left
        · (intro wS hSw; (try dsimp only at hSw); go_simp; try with_reducible rfl)
        simp only [Act.put, List.setIfInBounds_toArray]
        refine take_ (i := 12) (v := ?_) 45 rfl rfl (by kernel_rfl) (by kernel_rfl) (by kernel_rfl) (fun _ _ _ h => h) (Or.inl ⟨by rfl, ?_⟩) (by assumption) ?_
        rotate_left
        · (intro wS hSw; (try dsimp only at hSw); go_simp; try with_reducible rfl)
        simp only [Act.put, List.setIfInBounds_toArray]
        refine take_ (i := 13) (v := ?_) 46 rfl rfl (by kernel_rfl) (by kernel_rfl) (by kernel_rfl) (fun _ _ _ h => h) (Or.inl ⟨by rfl, ?_⟩) (by assumption) ?_
        rotate_left
        · (intro wS hSw; (try dsimp only at hSw); go_simp; try with_reducible rfl)
        simp only [Act.put, List.setIfInBounds_toArray]
        refine take_ (i := 14) (v := ?_) 47 rfl rfl (by kernel_rfl) (by kernel_rfl) (by kernel_rfl) (fun _ _ _ h => h) (Or.inl ⟨by rfl, ?_⟩) (by assumption) ?_
        rotate_left
        · (intro wS hSw; (try dsimp only at hSw); go_simp; try with_reducible rfl)
        simp only [Act.put, List.setIfInBounds_toArray]
        refine take_ (i := 15) (v := ?_) 48 rfl rfl (by kernel_rfl) (by kernel_rfl) (by kernel_rfl) (fun _ _ _ h => h) (Or.inl ⟨by rfl, ?_⟩) (by assumption) ?_
        rotate_left
        · (intro wS hSw; (try dsimp only at hSw); go_simp; try with_reducible rfl)
        simp only [Act.put, List.setIfInBounds_toArray]
        refine take_ (i := 16) (v := ?_) 49 rfl rfl (by kernel_rfl) (by kernel_rfl) (by kernel_rfl) (fun _ _ _ h => h) (Or.inl ⟨by rfl, ?_⟩) (by assumption) ?_
        rotate_left
        · (intro wS hSw; (try dsimp only at hSw); go_simp; try with_reducible rfl)
        simp only [Act.put, List.setIfInBounds_toArray]
        refine one_ (i := 10) _ (by kernel_rfl) rfl (fun K hK => ?_)
        go_simp
        refine US.out.mono ?_
        rintro e w6 ⟨rfl, hb6⟩
        dsimp only
        have B6 : Hid (Below w.heap.size w w6) := B5.out.trans (hb6.mono B5.out.size)
        have sz : (w6.cell? ⟨b, off + i * 4, none⟩ = some (.int .u8 (kd : Int)) ∧ w6.cell? ⟨b, off + i * 4 + 1, none⟩ = some (.string (strB ky)) ∧ w6.cell? ⟨b, off + i * 4 + 2, none⟩ = some (.string (strB vl)) ∧ w6.cell? ⟨b, off + i * 4 + 3, none⟩ = some (.int .i64 mo)) ∧ w6.cell? ⟨r, 0, none⟩ = some (.slice A5 m5 c5) := by
          have hbs : b < w5.heap.size := Nat.lt_of_lt_of_le HBB.out B5.out.size
          exact ⟨⟨(hb6.cell (p := ⟨b, off + i * 4, none⟩) hbs).trans sy.1, (hb6.cell (p := ⟨b, off + i * 4 + 1, none⟩) hbs).trans sy.2.1, (hb6.cell (p := ⟨b, off + i * 4 + 2, none⟩) hbs).trans sy.2.2.1, (hb6.cell (p := ⟨b, off + i * 4 + 3, none⟩) hbs).trans sy.2.2.2⟩, (RB.out.below hb6 RB.out.lt).cell 0⟩
        have BO6 := Lib.hid (BO.out.under hb6)
        clear hb6 US sx
        refine hK.out _ _ sz (fun hHeld => ?_)
        clear hK K
        refine take_ (i := 17) (v := ?_) 50 rfl rfl (by kernel_rfl) (by kernel_rfl) (by kernel_rfl) (fun _ _ _ h => h) (Or.inl ⟨by rfl, ?_⟩) (by assumption) ?_
        rotate_left
        · (intro wS hSw; (try dsimp only at hSw); go_simp; try with_reducible rfl)
        simp only [Act.put, List.setIfInBounds_toArray]
        refine take_ (i := 18) (v := ?_) 51 rfl rfl (by kernel_rfl) (by kernel_rfl) (by kernel_rfl) (fun _ _ _ h => h) (Or.inl ⟨by rfl, ?_⟩) (by assumption) ?_
        rotate_left
        · (intro wS hSw; (try dsimp only at hSw); go_simp; try with_reducible rfl)
        simp only [Act.put, List.setIfInBounds_toArray]
        refine wpAnyH_done (by kernel_rfl) ?_ _
        refine NoPanic.normal ?_
        clear sy sz hH5 r5 rl
        go_wp2_with fail
        go_roundw
        case rel => exact ⟨i + 1, _, by omega, by go_num, BO6.out, SL.out, B6.out⟩
        case measure => simp [intOf]; omega
      · obtain rfl : i = n1 := by omega
        obtain ⟨root, f, bs, L, F, _⟩ := G.out.1.tree
        obtain ⟨A, c, R⟩ := G.out.1.ref
        have ESL : Hid (es.length ≤ 2000) := Nat.le_trans G.out.2.1 L1.out
        have BSL : Hid (bs.length ≤ 4000) := by
          have q1 := L.lies.few
          have q2 := ESL.out
          show _ ≤ _
          omega
        have CNT : Hid (cnt 4096 f = bs.length) := by
          have q1 := F.cnt
          simp only [List.length_nil] at q1
          have q2 := cnt_ge (n := 4096) (f := f) (tree_at.1 L.lies).2.2 (fun v hv => by
            obtain ⟨a1, a2, x, hx⟩ := L.lies.taken v hv
            exact ⟨a1, a2, by rw [hx]; simp⟩)
          show _ = _
          omega
        have RZ : Hid (es.length = 0 → root = 0) := fun e => by
          rcases L.lies with ⟨h, _, _⟩ | ⟨d, t, _⟩
          · exact h
          · exact absurd (List.eq_nil_of_length_eq_zero e) t.top.2.2.1
        have BL := tblocks_any SRT.out w.heap.size wr t p root 4096 f es bs L (deep_of (by have := ESL.out; omega)) (by have := BSL.out; omega)
        unfold BlocksA at BL
        have BL := Lib.hid BL
        have LL := Lib.hid L
        have RR := Lib.hid R
        have BB := Lib.hid G.out.2.2
        have NDB := Lib.hid (tree_at.1 L.lies).2.2
        clear hlt ln L F R G
        go_wp2_with fail
        refine BL.out.mono ?_
        rintro e w7 ⟨v, bs', rfl, hpm, hpw, hO, hb7⟩
        obtain ⟨A7, c7, rfl, _, _⟩ := hO.any
        have LB : bs'.length = bs.length := hpm.length_eq
        have ND' : Hid (bs'.Nodup) := (hpm.nodup_iff).2 NDB.out
        have MEM : Hid (∀ v ∈ bs', v ∈ bs) := fun v hv => (hpm.mem_iff).1 hv
        have PW := Lib.hid hpw
        have O7 := Lib.hid hO
        have L7 := Lib.hid (LL.out.under hb7)
        have R7 : Hid (RefP w7 w.heap.size r es A c) := ⟨RR.out.blk.below hb7 RR.out.blk.lt, RR.out.own.below_ hb7⟩
        have B7 : Hid (Below w.heap.size w w7) := BB.out.trans (hb7.mono BB.out.size)
        have US := used_any w.heap.size w7 p 4096 f L7.out.mem
        rw [CNT.out, ← LB] at US
        have US := Lib.hid US
        obtain ⟨nb, hnb⟩ : ∃ x, x = bs'.length := ⟨_, rfl⟩
        rw [← hnb] at US O7
        have HNB := Lib.hid hnb
        have NB4 : Hid (nb ≤ 4000) := by have := BSL.out; show _ ≤ _; omega
        obtain ⟨ms, hms⟩ : ∃ x, x = es.length := ⟨_, rfl⟩
        rw [← hms] at ESL RZ
        have HMS := Lib.hid hms
        have hnb2 : bs'.length = nb := hnb.symm
        clear hpm hpw hO hb7 BL LL RR BB LB hnb hms
        go_wp2_with fail
        refine US.out.mono ?_
        clear hnb2
        rintro e w8 ⟨rfl, hb8⟩
        have O8 := Lib.hid (O7.out.below_ hb8)
        have L8 := Lib.hid (L7.out.under hb8)
        have R8 : Hid (RefP w8 w.heap.size r es A c) := ⟨R7.out.blk.below hb8 R7.out.blk.lt, R7.out.own.below_ hb8⟩
        have B8 : Hid (Below w.heap.size w w8) := B7.out.trans (hb8.mono B7.out.size)
        have rc := R8.out.blk.cell 0
        have rl := R8.out.blk.lt
        rw [← HMS.out] at rc
        have RT := Lib.hid (root_any w8 t p root L8.out.tree)
        have RZI : Hid (ms = 0 → (root : Int) = 0) := fun e => by have := RZ.out e; omega
        obtain ⟨ri, hri⟩ : ∃ x : Int, x = (root : Int) := ⟨_, rfl⟩
        rw [← hri] at RT RZI
        have HRI := Lib.hid hri
        clear hb8 US O7 L7 R7 B7 hri
        rcases Nat.eq_zero_or_pos ms with m0 | m0
        · have rz := RZI.out m0
          have mi : (ms : Int) = 0 := by omega
          have BSR : Hid True := trivial
          clear m0
          go_wp2_with fail
          refine RT.out.mono ?_
          rintro e w9 ⟨rfl, rfl⟩
          clear rc rl mi RT
          go_wp2_with fail
          go_loopw [9, 10] (fun vi _ wr => ∃ i : Nat, i ≤ nb ∧ vi = .int .i64 i ∧ Hid (Below w8.heap.size w8 wr)) (fun vi _ _ => nb - (intOf vi).toNat)
          case atStart => exact ⟨0, by omega, rfl, Below.refl _ _⟩
          case round =>
            obtain ⟨i, hi, rfl, G⟩ := hrel
            have ln := NB4.out
            by_cases hlt : i < nb
            · have hlt' : i < bs'.length := by rw [← HNB.out]; exact hlt
              have OR := O8.out.below_ G.out
              obtain ⟨AX, cX, eX, _, hN⟩ := OR.any
              injection eX with eX1 eX2 eX3
              clear eX2
              subst eX1 eX3
              obtain ⟨g, off, rfl, hgl, hcell⟩ := hN (by omega)
              have hc := hcell i (iV bs'[i]) (by rw [List.getElem?_map, List.getElem?_eq_getElem hlt']; rfl)
              unfold iV at hc
              obtain ⟨a1, a2, x, hx⟩ := L8.out.lies.taken bs'[i] (MEM.out _ (List.getElem_mem hlt'))
              have RD := read_yes w.heap.size wr p 4096 f (L8.out.mem.under G.out) (bs'[i] - 1) x hx
              rw [show ((bs'[i] - 1 : Nat) : Int) + 1 = (bs'[i] : Int) by omega] at RD
              have RD := Lib.hid RD
              have ST2 : Hid (∀ h : 0 < i, bs'[i - 1]'(by omega) < bs'[i]) := fun h => by
                have q1 := List.pairwise_iff_getElem.1 PW.out (i - 1) i (by omega) hlt' (by omega)
                have q2 := List.pairwise_iff_getElem.1 ND'.out (i - 1) i (by omega) hlt' (by omega)
                show _ < _
                omega
              have PV : Hid (∀ h : 0 < i, wr.cell? ⟨g, off + (i - 1), none⟩ = some (.int .i64 ((bs'[i - 1]'(by omega) : Nat) : Int))) := fun h => hcell (i - 1) (iV (bs'[i - 1]'(by omega))) (by rw [List.getElem?_map, List.getElem?_eq_getElem (by omega)]; rfl)
              have im : (i : Int) < (nb : Int) := by omega
              have lim : (i : Int) ≤ 4000 := by omega
              have GB := Lib.hid G.out
              have HC := Lib.hid hc
              clear hcell hN OR a1 a2 hx ln G
              go_wp2_with fail
              refine RD.out.mono ?_
              rintro e w9 ⟨v, rfl, _, hb9⟩
              have B9 : Hid (Below w8.heap.size w8 w9) := GB.out.trans (hb9.mono GB.out.size)
              have c9 : w9.cell? ⟨g, off + i, none⟩ = some (.int .i64 (bs'[i] : Int)) := (hb9.cell (p := ⟨g, off + i, none⟩) hgl).trans HC.out
              have P9 : Hid (∀ h : 0 < i, w9.cell? ⟨g, off + (i - 1), none⟩ = some (.int .i64 ((bs'[i - 1]'(by omega) : Nat) : Int))) := fun h => (hb9.cell (p := ⟨g, off + (i - 1), none⟩) hgl).trans (PV.out h)
              have B9N : Hid (∀ k, Below w8.heap.size w8 (w9.drewN k)) := fun k => below_drewN B9.out k
              have SZ9 : Hid (wr.heap.size ≤ w9.heap.size) := hb9.size
              clear hb9 RD PV hc
              rcases Nat.eq_zero_or_pos i with rfl | h0
              · clear ST2 P9
                have d0 : ∀ k, (w9.drewN k).cell? ⟨g, off + 0, none⟩ = some (.int .i64 (bs'[0] : Int)) := fun _ => c9
                go_upto_region 17 with fail
                go_quiet (fail)
                go_wp2_with fail
                go_roundw
                case rel => exact ⟨1, by omega, by rfl, B9N.out _⟩
                case measure => simp [intOf]; omega
              · have s2 := ST2.out h0
                have p9 := P9.out h0
                have gl9 : g < w9.heap.size := Nat.lt_of_lt_of_le hgl SZ9.out
                generalize bs'[i] = va at *
                generalize bs'[i - 1]'(by omega) = vb at *
                have s3 : ¬ (va : Int) ≤ (vb : Int) := by omega
                have j0 : (0 : Int) < (i : Int) := by omega
                have d0 : ∀ k, (w9.drewN k).cell? ⟨g, off + i, none⟩ = some (.int .i64 (va : Int)) := fun _ => c9
                have d1 : ∀ k, (w9.drewN k).cell? ⟨g, off + (i - 1), none⟩ = some (.int .i64 (vb : Int)) := fun _ => p9
                clear ST2 P9 s2
                go_upto_region 17 with fail
                go_quiet (fail)
                go_wp2_with fail
                go_roundw
                case rel => exact ⟨i + 1, by omega, by go_num, B9N.out _⟩
                case measure => simp [intOf]; omega
            · obtain rfl : i = nb := by omega
              have LF := Lib.hid (L8.out.under G.out)
              have RF : Hid (RefP wr w.heap.size r es A c) := ⟨R8.out.blk.below G.out R8.out.blk.lt, R8.out.own.below_ G.out⟩
              have BF : Hid (Below w.heap.size w wr) := B8.out.trans (G.out.mono B8.out.size)
              have RT2 := Lib.hid (root_any wr t p root LF.out.tree)
              have OP4 : Hid (Calls Tryz.prog 10 #[.iface 24 (.pointer (some ⟨p, 0, none⟩)), .int .i64 (root : Int)] wr fun x w' => ∃ t, x = .returned (.pointer (some ⟨t, 0, none⟩)) ∧ wr.heap.size ≤ t ∧ TreeO w' t p root ∧ Below wr.heap.size wr w') := open_any wr p root
              clear hlt ln G
              go_wp2_with fail
              refine RT2.out.mono ?_
              rintro e w12 ⟨rfl, rfl⟩
              clear RT2
              go_wp2_with fail
              refine OP4.out.mono ?_
              rintro e w12 ⟨t4, rfl, ht4, hT4, hb12⟩
              have L12 : LiveT w.heap.size w12 t4 p root 4096 f es bs := ⟨hT4, LF.out.mem.under hb12, LF.out.lies, LF.out.ok, Nat.le_refl _, Nat.le_trans BF.out.size ht4⟩
              have SC := tscan_any w.heap.size w12 t4 p root 4096 f es bs L12 (deep_of (by have h1 := ESL.out; have h2 := HMS.out; omega)) (by have h1 := ESL.out; have h2 := HMS.out; omega) [] (by simp) 1073741824 (by omega) (by omega)
              unfold ScanA at SC
              have FE : (fromE es []).take (1073741824 : Int).toNat = es := by
                rw [fromE_none, List.take_of_length_le]
                have h1 := ESL.out
                have h2 := HMS.out
                show es.length ≤ 1073741824
                omega
              rw [FE, show strB [] = (⟨#[]⟩ : ByteArray) from rfl] at SC
              have SC := Lib.hid SC
              have OK2 := Lib.hid LF.out.ok
              have R12 : Hid (RefP w12 w.heap.size r es A c) := ⟨RF.out.blk.below hb12 RF.out.blk.lt, RF.out.own.below_ hb12⟩
              have B12 : Hid (Below w.heap.size w w12) := BF.out.trans (hb12.mono BF.out.size)
              clear ht4 hT4 hb12 OP4 L12 LF RF BF FE
              go_wp2_with fail
              refine SC.out.mono ?_
              rintro e w13 ⟨v, rfl, hO, hb13⟩
              obtain ⟨A6, c6, rfl, _, _⟩ := hO.any
              have N13 := Lib.hid hO
              have R13 : Hid (RefP w13 w.heap.size r es A c) := ⟨R12.out.blk.below hb13 R12.out.blk.lt, R12.out.own.below_ hb13⟩
              have B13 : Hid (Below w.heap.size w w13) := B12.out.trans (hb13.mono B12.out.size)
              have by1 : ∀ e ∈ es, (∀ x ∈ e.1, x < 256) ∧ ∀ x ∈ e.2, x < 256 := fun e he => ⟨(OK2.out e he).kb, (OK2.out e he).vb⟩
              have SM := same_any w13 es es A6 A c6 c hO.at_.2 R13.out.own.at_.2 by1 by1 (by have h1 := ESL.out; have h2 := HMS.out; omega)
              rw [← HMS.out, decide_eq_true rfl] at SM
              have SM := Lib.hid SM
              have rc := R13.out.blk.cell 0
              have rl := R13.out.blk.lt
              rw [← HMS.out] at rc ⊢
              clear hO hb13 SC R12 B12 by1
              go_wp2_with fail
              refine SM.out.mono ?_
              rintro e w14 ⟨rfl, hb14⟩
              have B14 : Hid (Below w.heap.size w w14) := B13.out.trans (hb14.mono B13.out.size)
              clear hb14 SM rc rl
              go_wp2_with fail
              go_ret
              exact ⟨rfl, B14.out⟩
        · have mi : ¬ (ms : Int) = 0 := by omega
          clear m0 RT
          go_wp2_with fail
          go_loopw [9, 10] (fun vi _ wr => ∃ i : Nat, i ≤ nb ∧ vi = .int .i64 i ∧ Hid (Below w8.heap.size w8 wr)) (fun vi _ _ => nb - (intOf vi).toNat)
          case atStart => exact ⟨0, by omega, rfl, Below.refl _ _⟩
          case round =>
            obtain ⟨i, hi, rfl, G⟩ := hrel
            have ln := NB4.out
            by_cases hlt : i < nb
            · have hlt' : i < bs'.length := by rw [← HNB.out]; exact hlt
              have OR := O8.out.below_ G.out
              obtain ⟨AX, cX, eX, _, hN⟩ := OR.any
              injection eX with eX1 eX2 eX3
              clear eX2
              subst eX1 eX3
              obtain ⟨g, off, rfl, hgl, hcell⟩ := hN (by omega)
              have hc := hcell i (iV bs'[i]) (by rw [List.getElem?_map, List.getElem?_eq_getElem hlt']; rfl)
              unfold iV at hc
              obtain ⟨a1, a2, x, hx⟩ := L8.out.lies.taken bs'[i] (MEM.out _ (List.getElem_mem hlt'))
              have RD := read_yes w.heap.size wr p 4096 f (L8.out.mem.under G.out) (bs'[i] - 1) x hx
              rw [show ((bs'[i] - 1 : Nat) : Int) + 1 = (bs'[i] : Int) by omega] at RD
              have RD := Lib.hid RD
              have ST2 : Hid (∀ h : 0 < i, bs'[i - 1]'(by omega) < bs'[i]) := fun h => by
                have q1 := List.pairwise_iff_getElem.1 PW.out (i - 1) i (by omega) hlt' (by omega)
                have q2 := List.pairwise_iff_getElem.1 ND'.out (i - 1) i (by omega) hlt' (by omega)
                show _ < _
                omega
              have PV : Hid (∀ h : 0 < i, wr.cell? ⟨g, off + (i - 1), none⟩ = some (.int .i64 ((bs'[i - 1]'(by omega) : Nat) : Int))) := fun h => hcell (i - 1) (iV (bs'[i - 1]'(by omega))) (by rw [List.getElem?_map, List.getElem?_eq_getElem (by omega)]; rfl)
              have im : (i : Int) < (nb : Int) := by omega
              have lim : (i : Int) ≤ 4000 := by omega
              have GB := Lib.hid G.out
              have HC := Lib.hid hc
              clear hcell hN OR a1 a2 hx ln G
              go_wp2_with fail
              refine RD.out.mono ?_
              rintro e w9 ⟨v, rfl, _, hb9⟩
              have B9 : Hid (Below w8.heap.size w8 w9) := GB.out.trans (hb9.mono GB.out.size)
              have c9 : w9.cell? ⟨g, off + i, none⟩ = some (.int .i64 (bs'[i] : Int)) := (hb9.cell (p := ⟨g, off + i, none⟩) hgl).trans HC.out
              have P9 : Hid (∀ h : 0 < i, w9.cell? ⟨g, off + (i - 1), none⟩ = some (.int .i64 ((bs'[i - 1]'(by omega) : Nat) : Int))) := fun h => (hb9.cell (p := ⟨g, off + (i - 1), none⟩) hgl).trans (PV.out h)
              have B9N : Hid (∀ k, Below w8.heap.size w8 (w9.drewN k)) := fun k => below_drewN B9.out k
              have SZ9 : Hid (wr.heap.size ≤ w9.heap.size) := hb9.size
              clear hb9 RD PV hc
              rcases Nat.eq_zero_or_pos i with rfl | h0
              · clear ST2 P9
                have d0 : ∀ k, (w9.drewN k).cell? ⟨g, off + 0, none⟩ = some (.int .i64 (bs'[0] : Int)) := fun _ => c9
                go_upto_region 17 with fail
                go_quiet (fail)
                go_wp2_with fail
                go_roundw
                case rel => exact ⟨1, by omega, by rfl, B9N.out _⟩
                case measure => simp [intOf]; omega
              · have s2 := ST2.out h0
                have p9 := P9.out h0
                have gl9 : g < w9.heap.size := Nat.lt_of_lt_of_le hgl SZ9.out
                generalize bs'[i] = va at *
                generalize bs'[i - 1]'(by omega) = vb at *
                have s3 : ¬ (va : Int) ≤ (vb : Int) := by omega
                have j0 : (0 : Int) < (i : Int) := by omega
                have d0 : ∀ k, (w9.drewN k).cell? ⟨g, off + i, none⟩ = some (.int .i64 (va : Int)) := fun _ => c9
                have d1 : ∀ k, (w9.drewN k).cell? ⟨g, off + (i - 1), none⟩ = some (.int .i64 (vb : Int)) := fun _ => p9
                clear ST2 P9 s2
                go_upto_region 17 with fail
                go_quiet (fail)
                go_wp2_with fail
                go_roundw
                case rel => exact ⟨i + 1, by omega, by go_num, B9N.out _⟩
                case measure => simp [intOf]; omega
            · obtain rfl : i = nb := by omega
              have LF := Lib.hid (L8.out.under G.out)
              have RF : Hid (RefP wr w.heap.size r es A c) := ⟨R8.out.blk.below G.out R8.out.blk.lt, R8.out.own.below_ G.out⟩
              have BF : Hid (Below w.heap.size w wr) := B8.out.trans (G.out.mono B8.out.size)
              have RT2 := Lib.hid (root_any wr t p root LF.out.tree)
              have OP4 : Hid (Calls Tryz.prog 10 #[.iface 24 (.pointer (some ⟨p, 0, none⟩)), .int .i64 (root : Int)] wr fun x w' => ∃ t, x = .returned (.pointer (some ⟨t, 0, none⟩)) ∧ wr.heap.size ≤ t ∧ TreeO w' t p root ∧ Below wr.heap.size wr w') := open_any wr p root
              clear hlt ln G
              go_wp2_with fail
              refine RT2.out.mono ?_
              rintro e w12 ⟨rfl, rfl⟩
              clear RT2
              go_wp2_with fail
              refine OP4.out.mono ?_
              rintro e w12 ⟨t4, rfl, ht4, hT4, hb12⟩
              have L12 : LiveT w.heap.size w12 t4 p root 4096 f es bs := ⟨hT4, LF.out.mem.under hb12, LF.out.lies, LF.out.ok, Nat.le_refl _, Nat.le_trans BF.out.size ht4⟩
              have SC := tscan_any w.heap.size w12 t4 p root 4096 f es bs L12 (deep_of (by have h1 := ESL.out; have h2 := HMS.out; omega)) (by have h1 := ESL.out; have h2 := HMS.out; omega) [] (by simp) 1073741824 (by omega) (by omega)
              unfold ScanA at SC
              have FE : (fromE es []).take (1073741824 : Int).toNat = es := by
                rw [fromE_none, List.take_of_length_le]
                have h1 := ESL.out
                have h2 := HMS.out
                show es.length ≤ 1073741824
                omega
              rw [FE, show strB [] = (⟨#[]⟩ : ByteArray) from rfl] at SC
              have SC := Lib.hid SC
              have OK2 := Lib.hid LF.out.ok
              have R12 : Hid (RefP w12 w.heap.size r es A c) := ⟨RF.out.blk.below hb12 RF.out.blk.lt, RF.out.own.below_ hb12⟩
              have B12 : Hid (Below w.heap.size w w12) := BF.out.trans (hb12.mono BF.out.size)
              clear ht4 hT4 hb12 OP4 L12 LF RF BF FE
              go_wp2_with fail
              refine SC.out.mono ?_
              rintro e w13 ⟨v, rfl, hO, hb13⟩
              obtain ⟨A6, c6, rfl, _, _⟩ := hO.any
              have N13 := Lib.hid hO
              have R13 : Hid (RefP w13 w.heap.size r es A c) := ⟨R12.out.blk.below hb13 R12.out.blk.lt, R12.out.own.below_ hb13⟩
              have B13 : Hid (Below w.heap.size w w13) := B12.out.trans (hb13.mono B12.out.size)
              have by1 : ∀ e ∈ es, (∀ x ∈ e.1, x < 256) ∧ ∀ x ∈ e.2, x < 256 := fun e he => ⟨(OK2.out e he).kb, (OK2.out e he).vb⟩
              have SM := same_any w13 es es A6 A c6 c hO.at_.2 R13.out.own.at_.2 by1 by1 (by have h1 := ESL.out; have h2 := HMS.out; omega)
              rw [← HMS.out, decide_eq_true rfl] at SM
              have SM := Lib.hid SM
              have rc := R13.out.blk.cell 0
              have rl := R13.out.blk.lt
              rw [← HMS.out] at rc ⊢
              clear hO hb13 SC R12 B12 by1
              go_wp2_with fail
              refine SM.out.mono ?_
              rintro e w14 ⟨rfl, hb14⟩
              have B14 : Hid (Below w.heap.size w w14) := B13.out.trans (hb14.mono B13.out.size)
              clear hb14 SM rc rl
              go_wp2_with fail
              go_ret
              exact ⟨rfl, B14.out⟩
  · have i1 : (2000 : Int) < (n1 : Int) := by omega
    clear hn1 hl1
    go_enter Tryz.func3, Tryz.ntmps3
    go_wp2_with fail
    refine FX.out.mono ?_
    rintro e w1 ⟨rfl, hb1⟩
    have F2 := Lib.hid (BIG.out w1 hb1)
    clear hb1 FX
    go_wp2_with fail
    refine F2.out.mono ?_
    rintro e w2 ⟨rfl, hb2⟩
    have B2 := Lib.hid hb2
    clear hb2 F2
    go_wp2_with fail
    go_ret
    exact ⟨rfl, B2.out⟩
set_option maxRecDepth 100000 in
theorem opens {H : Type} {enc : TypeId × Value → H} {W : World} {base : Nat} {args : Array Value} {ds : List (DataW H)} {p : List MemPlace}
    (hval : ∀ (j : Nat) t v, Tryz.f3.params[j]? = some t → args[j]? = some v → Value.okWide Tryz.prog W .any base t v)
    (hA : DataW.TrodAll enc Tryz.prog W 0 (fun _ => true) true Tryz.f3.params.toList args.toList ds p) (hlt : ∀ x ∈ p, x.block < W.heap.size) (hk : Rows.uptoBulkAll ds ≤ 1048576) (hE : Env W) :
    Calls Tryz.prog 3 args W fun e W' => e = .returned (.bool true) ∧ Below W.heap.size W W' := by
  rw [Tryz.params3] at hA hval
  obtain ⟨v0, vs0, d0, ds0, p0, q0, hargs, rfl, rfl, h0, r0⟩ := trodAll_cons hA
  obtain ⟨rfl, rfl, rfl⟩ := trodAll_nil r0
  obtain rfl : args = #[v0] := Array.toList_inj.1 hargs
  have _hE := hE
  obtain ⟨A1, n1, c1, l1, rfl, hl1, hn1⟩ := open_ops06 (hval 0 22 v0 rfl rfl) h0
  exact walk sort_ok W A1 n1 c1 l1 hl1 hn1
theorem witness_row (os : Os) {H : Type} (enc : TypeId × Value → H) :
    (Rows.OpenSpec.upto Rows.btreePlaysSpec).preRow enc Tryz.prog Tryz.f3 Rows.btreePlaysUptoRow.domain false Rows.btreePlaysUptoRow.laid ((startW os).forCall (fun _ _ => 0) ⟨#[], #[.slice none 0 0], []⟩).memory #[.slice none 0 0] := by
  have hw : (DataW.whole enc Tryz.prog ((startW os).forCall (fun _ _ => 0) ⟨#[], #[.slice none 0 0], []⟩).memory Tryz.f3.params.toList Rows.btreePlaysSpec.vars false (#[.slice none 0 0] : Array Value).toList 8).map (fun x => (x.1, x.2.1)) =
      some ([.nil], []) := by kernel_rfl
  obtain ⟨⟨x1, x2, x3⟩, hx, hx1⟩ := Option.map_eq_some_iff.1 hw
  simp only [Prod.mk.injEq] at hx1
  obtain ⟨rfl, rfl⟩ := hx1
  exact OpenSpec.preRow_of_cond 8 hx (by kernel_rfl) (fun k hk => by cases hk; kernel_rfl) (by kernel_rfl) (door_met os _)
set_option maxRecDepth 100000 in
theorem lifted (os : Os) (started : os.Started) (H : Type) (enc : TypeId × Value → H) (F : Stop.Interp) :
    ReturnsInHanded {} Tryz.checked os 3 .any ((Rows.OpenSpec.upto Rows.btreePlaysSpec).preRow enc Tryz.prog Tryz.f3 Rows.btreePlaysUptoRow.domain false Rows.btreePlaysUptoRow.laid) (((Rows.OpenSpec.upto Rows.btreePlaysSpec).at F).post enc Tryz.prog Tryz.f3 false true false false) := by
  refine returnsInHanded_of_row (C := Tryz.checked) (s := Rows.OpenSpec.upto Rows.btreePlaysSpec) own started (by kernel_rfl) Tryz.func3
    (witness_row_atRef (enc := enc) (C := Tryz.checked) false (startW os) #[.slice none 0 0] rfl (by kernel_rfl) (by kernel_rfl) (by kernel_rfl) (witness_row os enc)) ?_
  intro W base args ds gs before hval hW _ hcond _ hL _ _
  have hk := hcond _ rfl
  refine law_calls (s := Rows.btreePlaysSpec) laidOut Tryz.underlying4 rfl (by rw [Tryz.params3]; exact of_decide_eq_true (by kernel_rfl)) rfl (fun ds h => by match ds, h with | [_], _ => rfl) hW ?_
  obtain ⟨rfl, p, hA, hlt⟩ := law_args rfl hW
  have hb : Rows.uptoBulkAll (ds ++ []) ≤ 1048576 := of_decide_eq_true hk
  rw [List.append_nil] at hb
  exact opens hval hA hlt hb (env_of hL)

theorem saidUpto : Rows.BtreePlaysUptoSaid :=
  OpenClaim.holds_of_cond 3 Tryz.f3 rfl rfl rfl rfl rfl rfl rfl ⟨rfl, rfl, rfl, rfl, rfl⟩ rfl rfl rfl rfl rfl (by kernel_rfl) Tryz.func3 (by kernel_rfl)
    (of_decide_eq_true (by kernel_rfl)) (by unfold Func.isWrapper; first | (rw [if_pos (by decide +kernel)]; kernel_rfl) | (rw [if_neg (by decide +kernel)]; exact ⟨rfl, rfl⟩))
    (fun os started H enc _ F => by rw [OpenClaim.pre_eq_preRow]; exact lifted os started H enc F)
theorem plain (f : FuncId) (fn : Func) (hf : Tryz.pinned.checked.prog.funcNamed "docket/docketlaw06.BtreePlays" = some f) (hfn : Tryz.pinned.checked.prog.funcs[f]? = some fn) :
    true = Tryz.pinned.checked.prog.looks [] ∧ ∀ (j : Nat) t, fn.params[j]? = some t → Tryz.pinned.checked.prog.wantsStandIn t = false := by
  obtain rfl : f = 3 := Option.some.inj ((show Tryz.prog.funcNamed "docket/docketlaw06.BtreePlays" = some 3 by kernel_rfl).symm.trans hf) |>.symm
  obtain rfl : fn = Tryz.f3 := (Option.some.inj (Tryz.func3.symm.trans hfn)).symm
  exact ⟨by kernel_rfl, fun j t ht => (of_decide_eq_true (p := ∀ t ∈ Tryz.f3.params.toList, Tryz.prog.wantsStandIn t = false) (by kernel_rfl)) t (Array.mem_toList_iff.2 (Array.mem_of_getElem? ht))⟩
theorem proved : Rows.BtreePlaysUptoCardSaid :=
  Claim7.holds_tied_plain_at .later [] _ _ _ _ saidUpto (fun _ h => by cases h) (by kernel_rfl) (fun _ h => by cases h) btreePlaysUpto_row_tie rfl ⟨rfl, rfl⟩ (by kernel_rfl) rfl plain (by kernel_rfl)

end Go.Proofs.YtldmllmkckklhaaGreatDoor.btreePlays
