/-
  BtreePages: a scan in pieces of any size, each from behind the last key on, tells the whole. The arguments hold at most 1048576 values and letters together (the Upto form).
-/
import Derived.Test.YtldmllmkckklhaaGreatDoorQA77
namespace Go.Proofs.YtldmllmkckklhaaGreatDoor.btreePages
open Go.ChangeShapes Go.WideShapes Go.ChangeAt Go.RowKit Wal

theorem strB_app (a b : List Nat) : strB (a ++ b) = strB a ++ strB b := by
  apply ByteArray.ext
  rw [ByteArray.data_append]
  apply Array.toList_inj.1
  rw [Array.toList_append]
  unfold strB
  rw [List.map_append, strOfNums_data, strOfNums_data, strOfNums_data, List.map_append]
theorem add_zero (k : List Nat) : strB k ++ (⟨#[0]⟩ : ByteArray) = strB (k ++ [0]) := by
  rw [strB_app]
  rfl
theorem take_more (es : List En) (j s : Nat) : es.take j ++ (es.drop j).take s = es.take (j + s) := (List.take_add ..).symm
set_option maxRecDepth 100000 in
set_option maxHeartbeats 6400000 in
theorem walk (w : World) (A : Option Addr) (c : Nat) (l : List En) (hP : PAt w A l) (h8 : ∀ e ∈ l, (∀ x ∈ e.1, x < 256) ∧ ∀ x ∈ e.2, x < 256) (hn : l.length ≤ 9223372036854775807) (size : Nat) (hsz : size < 256) :
    Calls Tryz.prog 7 #[.slice A l.length c, .int .u8 (size : Int)] w fun e w' => e = .returned (.bool true) ∧ Below w.heap.size w w' := by
  have HP := Lib.hid hP
  have H8 := Lib.hid h8
  have FX := Lib.hid (fixed_any w)
  have HS : Hid (size < 256) := hsz
  obtain ⟨m, hm⟩ : ∃ m, m = l.length := ⟨_, rfl⟩
  rw [← hm]
  have HM := Lib.hid hm
  clear hP h8 hsz
  by_cases hlen : m ≤ 200
  · have i1 : ¬ (200 : Int) < (m : Int) := by omega
    have LN : Hid (m ≤ 200) := hlen
    clear hn hm hlen
    go_enter Tryz.func7, Tryz.ntmps7
    go_wp2_with fail
    refine FX.out.mono ?_
    rintro e w1 ⟨rfl, hb1⟩
    have B1 := Lib.hid hb1
    have NM := Lib.hid (newmem_any w.heap.size w1 B1.out.size 4096)
    clear hb1 FX
    go_wp2_with fail
    refine NM.out.mono ?_
    rintro e w2 ⟨p, rfl, hp, hm2, hb2⟩
    have B2 : Hid (Below w.heap.size w w2) := B1.out.trans (hb2.mono B1.out.size)
    have M2 : Hid (MemAt w.heap.size w2 p 4096 fun _ => none) := hm2
    have OP : Hid (Calls Tryz.prog 10 #[.iface 24 (.pointer (some ⟨p, 0, none⟩)), .int .i64 0] w2 fun x w' => ∃ t, x = .returned (.pointer (some ⟨t, 0, none⟩)) ∧ w2.heap.size ≤ t ∧ TreeO w' t p 0 ∧ Below w2.heap.size w2 w') := open_any w2 p 0
    clear hb2 hm2 hp NM B1
    go_wp2_with fail
    refine OP.out.mono ?_
    rintro e w3 ⟨t, rfl, ht, hT, hb3⟩
    have L3 := Lib.hid (lone_new B2.out.size hT ht M2.out hb3)
    have B3 : Hid (Below w.heap.size w w3) := B2.out.trans (hb3.mono B2.out.size)
    clear ht hT hb3 OP M2 B2
    go_wp2_with fail
    go_loopw [6] (fun vi wr => ∃ (i : Nat) (es : List En), i ≤ m ∧ vi = .int .i64 i ∧ Hid (Lone w.heap.size wr t p 4096 es ∧ es.length ≤ i ∧ Below w.heap.size w wr)) (fun vi _ => m - (intOf vi).toNat)
    case atStart => exact ⟨0, [], by omega, rfl, L3.out, Nat.le_refl _, B3.out⟩
    case round =>
      clear L3 B3
      obtain ⟨i, es, hi, rfl, G⟩ := hrel
      have lm := LN.out
      by_cases hlt : i < m
      · have hlt' : i < l.length := by rw [← HM.out]; exact hlt
        have UD : Below wr.heap.size wr wr.drew := (Below.refl _ _).drew
        obtain ⟨wd, hwd⟩ : ∃ wd, wd = wr.drew := ⟨_, rfl⟩
        rw [← hwd] at UD
        have GL := Lib.hid (G.out.1.under UD)
        have GB : Hid (Below w.heap.size w wd) := G.out.2.2.trans (UD.mono G.out.2.2.size)
        obtain ⟨g, off, rfl, x0, x1⟩ := (HP.out.below GB.out).at_ hlt'
        have HG : Hid (g < w.heap.size) := by
          obtain ⟨g0, off0, e0, hg0, _⟩ := HP.out (by omega)
          injection e0 with e0
          injection e0 with e1 _
          show g < _
          rw [e1]
          exact hg0
        have PT := Lib.hid (lone_put w.heap.size wd t p 4096 es GL.out (by have := G.out.2.1; omega) (by have := G.out.2.1; omega) l[i].1 l[i].2 (H8.out _ (List.getElem_mem hlt')).1 (H8.out _ (List.getElem_mem hlt')).2)
        have LE : Hid (∀ k v, (if (goodK k && goodV v) = true then putE es k v else es).length ≤ i + 1) := fun k v => by
          have h1 := G.out.2.1
          have h2 := stepE_put (es := es) G.out.1.rises.1 k v
          split <;> omega
        have im : (i : Int) < (m : Int) := by omega
        have lim : (i : Int) ≤ 200 := by omega
        have HWD := Lib.hid hwd
        generalize l[i].1 = kx at *
        generalize l[i].2 = vx at *
        have sx : wd.cell? ⟨g, off + i * 2, none⟩ = some (.string (strB kx)) ∧ wd.cell? ⟨g, off + i * 2 + 1, none⟩ = some (.string (strB vx)) := ⟨x0, x1⟩
        clear hwd UD hlt lm
        go_upto_region 7 with fail
        refine wp_region_noPanic ?_
        refine wp_region_held_drew (S := fun w' => w'.cell? ⟨g, off + i * 2, none⟩ = some (.string (strB kx)) ∧ w'.cell? ⟨g, off + i * 2 + 1, none⟩ = some (.string (strB vx))) (by kernel_rfl) (by rw [← HWD.out]; exact sx) (fun hHeld => ?_)
        rw [← HWD.out]
        refine take_ (i := 0) (v := ?_) 31 rfl rfl (by kernel_rfl) (by kernel_rfl) (by kernel_rfl) (fun _ _ _ h => h) (Or.inl ⟨by rfl, ?_⟩) (by assumption) ?_
        rotate_left
        · (intro wS hSw; (try dsimp only at hSw); go_simp; try with_reducible rfl)
        simp only [Act.put, List.setIfInBounds_toArray]
        refine take_ (i := 1) (v := ?_) 32 rfl rfl (by kernel_rfl) (by kernel_rfl) (by kernel_rfl) (fun _ _ _ h => h) (Or.inl ⟨by rfl, ?_⟩) (by assumption) ?_
        rotate_left
        · (intro wS hSw; (try dsimp only at hSw); go_simp; try with_reducible rfl)
        simp only [Act.put, List.setIfInBounds_toArray]
        refine take_ (i := 2) (v := ?_) 33 rfl rfl (by kernel_rfl) (by kernel_rfl) (by kernel_rfl) (fun _ _ _ h => h) (Or.inl ⟨by rfl, ?_⟩) (by assumption) ?_
        rotate_left
        · (intro wS hSw; (try dsimp only at hSw); go_simp; try with_reducible rfl)
        simp only [Act.put, List.setIfInBounds_toArray]
        refine take_ (i := 3) (v := ?_) 34 rfl rfl (by kernel_rfl) (by kernel_rfl) (by kernel_rfl) (fun _ _ _ h => h) (Or.inl ⟨by rfl, ?_⟩) (by assumption) ?_
        rotate_left
        · (intro wS hSw; (try dsimp only at hSw); go_simp; try with_reducible rfl)
        simp only [Act.put, List.setIfInBounds_toArray]
        refine take_ (i := 4) (v := ?_) 35 rfl rfl (by kernel_rfl) (by kernel_rfl) (by kernel_rfl) (fun _ _ _ h => h) (Or.inl ⟨by rfl, ?_⟩) (by assumption) ?_
        rotate_left
        · (intro wS hSw; (try dsimp only at hSw); go_simp; try with_reducible rfl)
        simp only [Act.put, List.setIfInBounds_toArray]
        refine take_ (i := 5) (v := ?_) 36 rfl rfl (by kernel_rfl) (by kernel_rfl) (by kernel_rfl) (fun _ _ _ h => h) (Or.inl ⟨by rfl, ?_⟩) (by assumption) ?_
        rotate_left
        · (intro wS hSw; (try dsimp only at hSw); go_simp; try with_reducible rfl)
        simp only [Act.put, List.setIfInBounds_toArray]
        refine take_ (i := 6) (v := ?_) 37 rfl rfl (by kernel_rfl) (by kernel_rfl) (by kernel_rfl) (fun _ _ _ h => h) (Or.inl ⟨by rfl, ?_⟩) (by assumption) ?_
        rotate_left
        · (intro wS hSw; (try dsimp only at hSw); go_simp; try with_reducible rfl)
        simp only [Act.put, List.setIfInBounds_toArray]
        refine take_ (i := 7) (v := ?_) 38 rfl rfl (by kernel_rfl) (by kernel_rfl) (by kernel_rfl) (fun _ _ _ h => h) (Or.inl ⟨by rfl, ?_⟩) (by assumption) ?_
        rotate_left
        · (intro wS hSw; (try dsimp only at hSw); go_simp; try with_reducible rfl)
        simp only [Act.put, List.setIfInBounds_toArray]
        refine take_ (i := 8) (v := ?_) 39 rfl rfl (by kernel_rfl) (by kernel_rfl) (by kernel_rfl) (fun _ _ _ h => h) (Or.inl ⟨by rfl, ?_⟩) (by assumption) ?_
        rotate_left
        · (intro wS hSw; (try dsimp only at hSw); go_simp; try with_reducible rfl)
        simp only [Act.put, List.setIfInBounds_toArray]
        refine take_ (i := 9) (v := ?_) 40 rfl rfl (by kernel_rfl) (by kernel_rfl) (by kernel_rfl) (fun _ _ _ h => h) (Or.inl ⟨by rfl, ?_⟩) (by assumption) ?_
        rotate_left
        · (intro wS hSw; (try dsimp only at hSw); go_simp; try with_reducible rfl)
        simp only [Act.put, List.setIfInBounds_toArray]
        refine take_ (i := 10) (v := ?_) 41 rfl rfl (by kernel_rfl) (by kernel_rfl) (by kernel_rfl) (fun _ _ _ h => h) (Or.inl ⟨by rfl, ?_⟩) (by assumption) ?_
        rotate_left
        · (intro wS hSw; (try dsimp only at hSw); go_simp; try with_reducible rfl)
        simp only [Act.put, List.setIfInBounds_toArray]
        refine one_ (i := 11) _ (by kernel_rfl) rfl (fun K hK => ?_)
        go_simp
        refine PT.out.mono ?_
        rintro x wn ⟨⟨e, rfl⟩, hL, hK⟩
        dsimp only
        have BN : Hid (Below w.heap.size w wn) := GB.out.trans (hK.below GB.out.size)
        have LN2 := Lib.hid hL
        have sn : wn.cell? ⟨g, off + i * 2, none⟩ = some (.string (strB kx)) ∧ wn.cell? ⟨g, off + i * 2 + 1, none⟩ = some (.string (strB vx)) := ⟨((hK.below GB.out.size).cell (p := ⟨g, off + i * 2, none⟩) HG.out).trans sx.1, ((hK.below GB.out.size).cell (p := ⟨g, off + i * 2 + 1, none⟩) HG.out).trans sx.2⟩
        clear hL hK PT
        refine hK.out _ _ sn (fun hHeld => ?_)
        clear hK K
        refine wpAnyH_done (by kernel_rfl) ?_ _
        refine NoPanic.normal ?_
        clear sx sn x0 x1
        go_wp2_with fail
        go_roundw
        case rel => exact ⟨i + 1, _, by omega, by go_num, LN2.out, LE.out kx vx, BN.out⟩
        case measure => simp [intOf]; omega
      · obtain rfl : i = m := by omega
        have ESL : Hid (es.length ≤ 200) := Nat.le_trans G.out.2.1 LN.out
        have FE : (fromE es []).take (1073741824 : Int).toNat = es := by
          rw [fromE_none, List.take_of_length_le]
          have := ESL.out
          show es.length ≤ 1073741824
          omega
        have SC := lone_scan w.heap.size wr t p 4096 es G.out.1 (by have := ESL.out; omega) [] (by simp) 1073741824 (by omega) (by omega)
        unfold ScanA at SC
        rw [FE, show strB [] = (⟨#[]⟩ : ByteArray) from rfl] at SC
        have SC := Lib.hid SC
        have RO := Lib.hid G.out.1.rises
        clear hlt FE lm
        go_wp2_with fail
        refine SC.out.mono ?_
        rintro e ws ⟨vw, rfl, hO, hbs⟩
        obtain ⟨Aw, cw, rfl, _, _⟩ := hO.any
        have OW : Hid (OwnP ws w.heap.size (.slice Aw es.length cw) es) := OwnP.base_ hO G.out.2.2.size
        have LS := Lib.hid (G.out.1.under hbs)
        have BS : Hid (Below w.heap.size w ws) := G.out.2.2.trans (hbs.mono G.out.2.2.size)
        obtain ⟨ms, hms⟩ : ∃ x, x = es.length := ⟨_, rfl⟩
        rw [← hms] at OW ESL ⊢
        have HMS := Lib.hid hms
        clear hO hbs SC G hms
        go_wp2_with fail
        go_loopw [9, 10, 11] (fun v9 v10 v11 wr => ∃ (i j : Nat) (A' : Option Addr) (c' : Nat) (fk : List Nat), i ≤ ms + 1 ∧ v11 = .int .i64 i ∧ v10 = .string (strB fk) ∧ v9 = .slice A' j c' ∧ Hid (j ≤ ms ∧ (i ≤ j ∨ j = ms) ∧ fromE es fk = es.drop j ∧ (∀ x ∈ fk, x < 256) ∧ OwnP wr ws.heap.size (.slice A' j c') (es.take j) ∧ Lone w.heap.size wr t p 4096 es ∧ Below ws.heap.size ws wr)) (fun _ _ v11 _ => ms + 1 - (intOf v11).toNat)
        case atStart => exact ⟨0, 0, none, 0, [], by omega, rfl, rfl, rfl, Nat.zero_le _, .inl (Nat.le_refl _), by rw [fromE_none, List.drop_zero], by simp, OwnP.nil _ _, LS.out, Below.refl _ _⟩
        case round =>
          clear LS
          obtain ⟨i, j, A', c', fk, hi, rfl, rfl, rfl, G⟩ := hrel
          have esl := ESL.out
          have hms := HMS.out
          have sz := HS.out
          by_cases hlt : i ≤ ms
          · have im : (i : Int) ≤ (ms : Int) := by omega
            have lim : (i : Int) ≤ 200 := by omega
            have s1 : (size : Int) + 1 ≤ 256 := by omega
            have SC := lone_scan w.heap.size wr t p 4096 es G.out.2.2.2.2.2.1 (by omega) fk G.out.2.2.2.1 ((size : Int) + 1) (by omega) (by omega)
            unfold ScanA at SC
            rw [G.out.2.2.1, show ((size : Int) + 1).toNat = size + 1 by omega] at SC
            obtain ⟨pc, hpc⟩ : ∃ x, x = (es.drop j).take (size + 1) := ⟨_, rfl⟩
            rw [← hpc] at SC
            have SC := Lib.hid SC
            have HPC := Lib.hid hpc
            have jl := G.out.1
            have FR := Lib.hid G.out.2.2.1
            have PL : Hid (pc.length = min (size + 1) (ms - j)) := by show _ = _; rw [hpc, List.length_take, List.length_drop, hms]
            have TK : Hid (es.take j ++ pc = es.take (j + pc.length)) := by
              show _ = _
              rw [PL.out, hpc, take_more, List.take_eq_take_iff]
              omega
            have PE : Hid (∀ k (h : k < pc.length) (h2 : j + k < es.length), pc[k] = es[j + k]) := fun k h h2 => by
              subst hpc
              simp
            have tl : (es.take j).length = j := by rw [List.length_take]; omega
            clear hpc hms
            go_wp2_with fail
            refine SC.out.mono ?_
            rintro e w5 ⟨v, rfl, hO, hb5⟩
            obtain ⟨A5, c5, rfl, _, hPA⟩ := hO.any
            have O5 := Lib.hid (G.out.2.2.2.2.1.below_ hb5)
            have P5 := Lib.hid hPA
            have OO5 := Lib.hid hO
            have L5 := Lib.hid (G.out.2.2.2.2.2.1.under hb5)
            have B5 : Hid (Below ws.heap.size ws w5) := G.out.2.2.2.2.2.2.trans (hb5.mono G.out.2.2.2.2.2.2.size)
            have LTG : Hid (∀ gb, (Value.slice A' j c').ownBlock = some gb → gb < wr.heap.size) := fun gb hgb => (G.out.2.2.2.2.1.lt gb hgb).2
            obtain ⟨n5, hn5⟩ : ∃ x, x = pc.length := ⟨_, rfl⟩
            have SZ : Hid ((es.take j).length + n5 ≤ 100000) := by show _ ≤ _; rw [tl, hn5, PL.out]; omega
            rw [← hn5] at TK PL ⊢
            have HN5 := Lib.hid hn5
            have GC := Lib.hid (And.intro G.out.2.1 G.out.2.2.2.1)
            have t2 : (es.take (j + n5)).length = j + n5 := by rw [List.length_take, PL.out]; have := HMS.out; omega
            clear hO hb5 hPA SC G hn5
            go_upto_region 18 with (at_builtin; refine wpList_append_p rfl (o := ⟨some 67, _, _, _, _, _⟩) (.tmp 65) (.tmp 66) rfl ws.heap.size _ _ rfl O5.out A5 n5 c5 pc rfl HN5.out.symm P5.out SZ.out B5.out.size ?_; intro v6 w6 hown6 hg6; rw [TK.out] at hown6; have B6 : Hid (Below ws.heap.size ws w6) := O5.out.grown B5.out hg6 B5.out.size; have G6 := Lib.hid hg6; obtain ⟨A6, c6, hv6, _, _⟩ := hown6.any; rw [t2] at hv6; subst hv6; have OW6 := Lib.hid hown6; clear hown6 hg6)
            have L6 : Hid (Lone w.heap.size w6 t p 4096 es) := by
              obtain ⟨root, f, bs, x1, x2⟩ := L5.out
              exact ⟨root, f, bs, x1.kps ((KpS.refl PS ws.heap.size w5).grown O5.out G6.out (by simp [PS]) (Nat.le_refl _)) (by decide), x2⟩
            by_cases hz : n5 = 0
            · have jm : j = ms := by have := PL.out; omega
              have n0 : ¬ (0 : Int) < (n5 : Int) := by omega
              have R6 : Hid (fromE es fk = es.drop (j + n5)) := by
                show _ = _
                rw [hz, Nat.add_zero]
                exact FR.out
              clear sz tl t2
              go_wp2_with fail
              go_roundw
              case rel => exact ⟨i + 1, j + n5, A6, c6, fk, by omega, by go_num, rfl, rfl, by omega, .inr (by omega), R6.out, GC.out.2, OW6.out, L6.out, B6.out⟩
              case measure => simp [intOf]; omega
            · have n0 : (0 : Int) < (n5 : Int) := by omega
              have n5l : n5 ≤ 256 := by have := PL.out; omega
              have lp : n5 - 1 < pc.length := by rw [← HN5.out]; omega
              have le : j + (n5 - 1) < es.length := by have := PL.out; have := HMS.out; omega
              obtain ⟨g5, off5, rfl, z0, _⟩ := P5.out.at_ lp
              have hgb : wr.heap.size ≤ g5 ∧ g5 < w5.heap.size := by
                have := OO5.out.lt g5 rfl
                exact this
              have z6 : w6.cell? ⟨g5, off5 + (n5 - 1) * 2, none⟩ = some (.string (strB pc[n5 - 1].1)) := by
                refine (World.cell?_of_block (a := ⟨g5, off5 + (n5 - 1) * 2, none⟩) (G6.out.block g5 hgb.2 (fun e => ?_))).trans z0
                have := LTG.out g5 e.symm
                omega
              have KE := PE.out (n5 - 1) lp le
              have FN := Lib.hid (from_next RO.out.1 le)
              have OKX := RO.out.2 es[j + (n5 - 1)] (List.getElem_mem le)
              rw [KE] at z6
              have l6 : g5 < w6.heap.size := Nat.lt_of_lt_of_le hgb.2 G6.out.size
              obtain ⟨kx, hkx⟩ : ∃ x, x = es[j + (n5 - 1)].1 := ⟨_, rfl⟩
              rw [← hkx] at z6 FN
              have KX : Hid (kx.length ≤ 128 ∧ ∀ x ∈ kx, x < 256) := by show _ ∧ _; rw [hkx]; exact ⟨OKX.k2, OKX.kb⟩
              have FF : Hid (fromE es (kx ++ [0]) = es.drop (j + n5)) := by
                show _ = _
                rw [FN.out, show j + (n5 - 1) + 1 = j + n5 by omega]
              have cat : (strB kx).size + 1 ≤ 9223372036854775807 := by rw [strB_size]; have := KX.out.1; omega
              have AZ := Lib.hid (add_zero kx)
              have e1 : ((n5 - 1 : Nat) : Int) = (n5 : Int) - 1 := by omega
              have BB : Hid (∀ x ∈ kx ++ [0], x < 256) := fun x hx => by
                rcases List.mem_append.1 hx with hx | hx
                · exact KX.out.2 x hx
                · have : x = 0 := by simpa using hx
                  omega
              have sl : (n5 : Int) - 1 < (n5 : Int) := by omega
              have sl0 : (0 : Int) ≤ (n5 : Int) - 1 := by omega
              clear z0 KE FN OKX hkx sz tl t2 hgb hz
              go_wp2_with fail
              rw [AZ.out]
              go_roundw
              case rel => exact ⟨i + 1, j + n5, A6, c6, kx ++ [0], by omega, by go_num, rfl, rfl, by have := PL.out; omega, by have := PL.out; have := GC.out.1; omega, FF.out, BB.out, OW6.out, L6.out, B6.out⟩
              case measure => simp [intOf]; omega
          · have im : ¬ (i : Int) ≤ (ms : Int) := by omega
            have jm : j = ms := by have h1 := G.out.2.1; have h2 := G.out.1; omega
            subst jm
            have tk : es.take j = es := List.take_of_length_le (by omega)
            have OG := G.out.2.2.2.2.1
            rw [tk] at OG
            have OW2 := OW.out.below_ G.out.2.2.2.2.2.2
            have SM := same_any wr es es A' Aw c' cw OG.at_.2 OW2.at_.2 (fun e he => ⟨(RO.out.2 e he).kb, (RO.out.2 e he).vb⟩) (fun e he => ⟨(RO.out.2 e he).kb, (RO.out.2 e he).vb⟩) (by omega)
            rw [← hms, decide_eq_true rfl] at SM
            have SM := Lib.hid SM
            have BF : Hid (Below w.heap.size w wr) := BS.out.trans (G.out.2.2.2.2.2.2.mono BS.out.size)
            clear tk OG OW2 hms sz hlt
            go_wp2_with fail
            refine SM.out.mono ?_
            rintro e w9 ⟨rfl, hb9⟩
            have B9 : Hid (Below w.heap.size w w9) := BF.out.trans (hb9.mono BF.out.size)
            clear hb9 SM
            go_wp2_with fail
            go_ret
            exact ⟨rfl, B9.out⟩
  · have i1 : (200 : Int) < (m : Int) := by omega
    have lm2 : (m : Int) ≤ 9223372036854775807 := by omega
    clear hn hm hlen
    go_enter Tryz.func7, Tryz.ntmps7
    go_wp2_with fail
    refine FX.out.mono ?_
    rintro e w1 ⟨rfl, hb1⟩
    have B1 := Lib.hid hb1
    have F2 := Lib.hid (fixed_any w1)
    clear hb1 FX
    go_wp2_with fail
    refine F2.out.mono ?_
    rintro e w2 ⟨rfl, hb2⟩
    have B2 : Hid (Below w.heap.size w w2) := B1.out.trans (hb2.mono B1.out.size)
    clear hb2 F2
    go_wp2_with fail
    go_ret
    exact ⟨rfl, B2.out⟩
set_option maxRecDepth 100000 in
theorem opens {H : Type} {enc : TypeId × Value → H} {W : World} {base : Nat} {args : Array Value} {ds : List (DataW H)} {p : List MemPlace}
    (hval : ∀ (j : Nat) t v, Tryz.f7.params[j]? = some t → args[j]? = some v → Value.okWide Tryz.prog W .any base t v)
    (hA : DataW.TrodAll enc Tryz.prog W 0 (fun _ => true) true Tryz.f7.params.toList args.toList ds p) (hlt : ∀ x ∈ p, x.block < W.heap.size) (hk : Rows.uptoBulkAll ds ≤ 1048576) (hE : Env W) :
    Calls Tryz.prog 7 args W fun e W' => e = .returned (.bool true) ∧ Below W.heap.size W W' := by
  rw [Tryz.params7] at hA hval
  obtain ⟨v0, vs0, d0, ds0, p0, q0, hargs, rfl, rfl, h0, r0⟩ := trodAll_cons hA
  obtain ⟨v1, vs1, d1, ds1, p1, q1, rfl, rfl, rfl, h1, r1⟩ := trodAll_cons r0
  obtain ⟨rfl, rfl, rfl⟩ := trodAll_nil r1
  obtain rfl : args = #[v0, v1] := Array.toList_inj.1 hargs
  have _hE := hE
  obtain ⟨A, c, l, rfl, hP, h8, hn⟩ := open_pairs (hval 0 29 v0 rfl rfl) h0
  obtain ⟨x, rfl, rfl, rfl, wx⟩ := open_int Tryz.underlying5 (hval 1 5 v1 rfl rfl) h1
  have u := u8_nat wx
  obtain ⟨X, hX⟩ : ∃ X : Nat, X = x.toNat := ⟨_, rfl⟩
  rw [← hX] at u
  rw [← u.1]
  exact walk W A c l hP h8 hn X u.2
theorem witness_row (os : Os) {H : Type} (enc : TypeId × Value → H) :
    (Rows.OpenSpec.upto Rows.btreePagesSpec).preRow enc Tryz.prog Tryz.f7 Rows.btreePagesUptoRow.domain false Rows.btreePagesUptoRow.laid ((startW os).forCall (fun _ _ => 0) ⟨#[], #[.slice none 0 0, .int .u8 0], []⟩).memory #[.slice none 0 0, .int .u8 0] := by
  have hw : (DataW.whole enc Tryz.prog ((startW os).forCall (fun _ _ => 0) ⟨#[], #[.slice none 0 0, .int .u8 0], []⟩).memory Tryz.f7.params.toList Rows.btreePagesSpec.vars false (#[.slice none 0 0, .int .u8 0] : Array Value).toList 8).map (fun x => (x.1, x.2.1)) =
      some ([.nil, .lit (.int .u8 0)], []) := by kernel_rfl
  obtain ⟨⟨x1, x2, x3⟩, hx, hx1⟩ := Option.map_eq_some_iff.1 hw
  simp only [Prod.mk.injEq] at hx1
  obtain ⟨rfl, rfl⟩ := hx1
  exact OpenSpec.preRow_of_cond 8 hx (by kernel_rfl) (fun k hk => by cases hk; kernel_rfl) (by kernel_rfl) (door_met os _)
set_option maxRecDepth 100000 in
theorem lifted (os : Os) (started : os.Started) (H : Type) (enc : TypeId × Value → H) (F : Stop.Interp) :
    ReturnsInHanded {} Tryz.checked os 7 .any ((Rows.OpenSpec.upto Rows.btreePagesSpec).preRow enc Tryz.prog Tryz.f7 Rows.btreePagesUptoRow.domain false Rows.btreePagesUptoRow.laid) (((Rows.OpenSpec.upto Rows.btreePagesSpec).at F).post enc Tryz.prog Tryz.f7 false true false false) := by
  refine returnsInHanded_of_row (C := Tryz.checked) (s := Rows.OpenSpec.upto Rows.btreePagesSpec) own started (by kernel_rfl) Tryz.func7
    (witness_row_atRef (enc := enc) (C := Tryz.checked) false (startW os) #[.slice none 0 0, .int .u8 0] rfl (by kernel_rfl) (by kernel_rfl) (by kernel_rfl) (witness_row os enc)) ?_
  intro W base args ds gs before hval hW _ hcond _ hL _ _
  have hk := hcond _ rfl
  refine law_calls (s := Rows.btreePagesSpec) laidOut Tryz.underlying4 rfl (by rw [Tryz.params7]; exact of_decide_eq_true (by kernel_rfl)) rfl (fun ds h => by match ds, h with | [_, _], _ => rfl) hW ?_
  obtain ⟨rfl, p, hA, hlt⟩ := law_args rfl hW
  have hb : Rows.uptoBulkAll (ds ++ []) ≤ 1048576 := of_decide_eq_true hk
  rw [List.append_nil] at hb
  exact opens hval hA hlt hb (env_of hL)

theorem saidUpto : Rows.BtreePagesUptoSaid :=
  OpenClaim.holds_of_cond 7 Tryz.f7 rfl rfl rfl rfl rfl rfl rfl ⟨rfl, rfl, rfl, rfl, rfl⟩ rfl rfl rfl rfl rfl (by kernel_rfl) Tryz.func7 (by kernel_rfl)
    (of_decide_eq_true (by kernel_rfl)) (by unfold Func.isWrapper; first | (rw [if_pos (by decide +kernel)]; kernel_rfl) | (rw [if_neg (by decide +kernel)]; exact ⟨rfl, rfl⟩))
    (fun os started H enc _ F => by rw [OpenClaim.pre_eq_preRow]; exact lifted os started H enc F)
theorem plain (f : FuncId) (fn : Func) (hf : Tryz.pinned.checked.prog.funcNamed "docket/docketlaw06.BtreePages" = some f) (hfn : Tryz.pinned.checked.prog.funcs[f]? = some fn) :
    true = Tryz.pinned.checked.prog.looks [] ∧ ∀ (j : Nat) t, fn.params[j]? = some t → Tryz.pinned.checked.prog.wantsStandIn t = false := by
  obtain rfl : f = 7 := Option.some.inj ((show Tryz.prog.funcNamed "docket/docketlaw06.BtreePages" = some 7 by kernel_rfl).symm.trans hf) |>.symm
  obtain rfl : fn = Tryz.f7 := (Option.some.inj (Tryz.func7.symm.trans hfn)).symm
  exact ⟨by kernel_rfl, fun j t ht => (of_decide_eq_true (p := ∀ t ∈ Tryz.f7.params.toList, Tryz.prog.wantsStandIn t = false) (by kernel_rfl)) t (Array.mem_toList_iff.2 (Array.mem_of_getElem? ht))⟩
theorem proved : Rows.BtreePagesUptoCardSaid :=
  Claim7.holds_tied_plain_at .later [] _ _ _ _ saidUpto (fun _ h => by cases h) (by kernel_rfl) (fun _ h => by cases h) btreePagesUpto_row_tie rfl ⟨rfl, rfl⟩ (by kernel_rfl) rfl plain (by kernel_rfl)

end Go.Proofs.YtldmllmkckklhaaGreatDoor.btreePages
