/-
  BtreeEmpty: once all keys are deleted, in whatever order, no block is taken any more; and each delete finds its key once. The arguments hold at most 1048576 values and letters together (the Upto form).
-/
import Derived.Test.YtldmllmkckklhaaDoorQA77
namespace Go.Proofs.YtldmllmkckklhaaDoor.btreeEmpty
open Go.ChangeShapes Go.WideShapes Go.ChangeAt Go.RowKit Wal

set_option maxRecDepth 100000 in
set_option maxHeartbeats 6400000 in
theorem walk (w : World) (A : Option Addr) (c : Nat) (l : List En) (hP : PAt w A l) (h8 : ∀ e ∈ l, (∀ x ∈ e.1, x < 256) ∧ ∀ x ∈ e.2, x < 256) (hn : l.length ≤ 9223372036854775807) (back : Bool) :
    Calls Tryd.prog 4 #[.slice A l.length c, .bool back] w fun e w' => e = .returned (.bool true) ∧ Below w.heap.size w w' := by
  have HP := Lib.hid hP
  have H8 := Lib.hid h8
  have FX := Lib.hid (fixed_any w)
  obtain ⟨m, hm⟩ : ∃ m, m = l.length := ⟨_, rfl⟩
  rw [← hm]
  have HM := Lib.hid hm
  clear hP h8
  by_cases hlen : m ≤ 200
  · have i1 : ¬ (200 : Int) < (m : Int) := by omega
    have LN : Hid (m ≤ 200) := hlen
    clear hn hm hlen
    go_enter Tryd.func4, Tryd.ntmps4
    go_wp2_with fail
    refine FX.out.mono ?_
    rintro e w1 ⟨rfl, hb1⟩
    have B1 := Lib.hid hb1
    have NM := Lib.hid (newmem_any w.heap.size w1 B1.out.size 4096)
    clear hb1 FX
    go_wp2_with fail
    refine NM.out.mono ?_
    rintro e w2 ⟨p, rfl, hp, hm2, hb2⟩
    have B2 : Hid (Below w.heap.size w w2) := B1.out.trans (hb2.mono B1.out.size)
    have M2 : Hid (MemAt w.heap.size w2 p 4096 fun _ => none) := hm2
    have OP : Hid (Calls Tryd.prog 12 #[.iface 24 (.pointer (some ⟨p, 0, none⟩)), .int .i64 0] w2 fun x w' => ∃ t, x = .returned (.pointer (some ⟨t, 0, none⟩)) ∧ w2.heap.size ≤ t ∧ TreeO w' t p 0 ∧ Below w2.heap.size w2 w') := open_any w2 p 0
    clear hb2 hm2 hp NM B1
    go_wp2_with fail
    refine OP.out.mono ?_
    rintro e w3 ⟨t, rfl, ht, hT, hb3⟩
    have L3 := Lib.hid (lone_new B2.out.size hT ht M2.out hb3)
    have B3 : Hid (Below w.heap.size w w3) := B2.out.trans (hb3.mono B2.out.size)
    clear ht hT hb3 OP M2 B2
    go_wp2_with fail
    go_loopw [7] (fun vi wr => ∃ (i : Nat) (es : List En), i ≤ m ∧ vi = .int .i64 i ∧ Hid (Lone w.heap.size wr t p 4096 es ∧ es.length ≤ i ∧ Below w.heap.size w wr)) (fun vi _ => m - (intOf vi).toNat)
    case atStart => exact ⟨0, [], by omega, rfl, L3.out, Nat.le_refl _, B3.out⟩
    case round =>
      clear L3 B3
      obtain ⟨i, es, hi, rfl, G⟩ := hrel
      have lm := LN.out
      by_cases hlt : i < m
      · have hlt' : i < l.length := by rw [← HM.out]; exact hlt
        have UD : Below wr.heap.size wr wr.drew := (Below.refl _ _).drew
        obtain ⟨wd, hwd⟩ : ∃ wd, wd = wr.drew := ⟨_, rfl⟩
        rw [← hwd] at UD
        have GL := Lib.hid (G.out.1.under UD)
        have GB : Hid (Below w.heap.size w wd) := G.out.2.2.trans (UD.mono G.out.2.2.size)
        obtain ⟨g, off, rfl, x0, x1⟩ := (HP.out.below GB.out).at_ hlt'
        have HG : Hid (g < w.heap.size) := by
          obtain ⟨g0, off0, e0, hg0, _⟩ := HP.out (by omega)
          injection e0 with e0
          injection e0 with e1 _
          show g < _
          rw [e1]
          exact hg0
        have PT := Lib.hid (lone_put w.heap.size wd t p 4096 es GL.out (by have := G.out.2.1; omega) (by have := G.out.2.1; omega) l[i].1 l[i].2 (H8.out _ (List.getElem_mem hlt')).1 (H8.out _ (List.getElem_mem hlt')).2)
        have LE : Hid (∀ k v, (if (goodK k && goodV v) = true then putE es k v else es).length ≤ i + 1) := fun k v => by
          have h1 := G.out.2.1
          have h2 := stepE_put (es := es) G.out.1.rises.1 k v
          split <;> omega
        have im : (i : Int) < (m : Int) := by omega
        have lim : (i : Int) ≤ 200 := by omega
        have HWD := Lib.hid hwd
        generalize l[i].1 = kx at *
        generalize l[i].2 = vx at *
        have sx : wd.cell? ⟨g, off + i * 2, none⟩ = some (.string (strB kx)) ∧ wd.cell? ⟨g, off + i * 2 + 1, none⟩ = some (.string (strB vx)) := ⟨x0, x1⟩
        clear hwd UD hlt lm
        go_upto_region 8 with fail
        refine wp_region_noPanic ?_
        refine wp_region_held_drew (S := fun w' => w'.cell? ⟨g, off + i * 2, none⟩ = some (.string (strB kx)) ∧ w'.cell? ⟨g, off + i * 2 + 1, none⟩ = some (.string (strB vx))) (by kernel_rfl) (by rw [← HWD.out]; exact sx) (fun hHeld => ?_)
        rw [← HWD.out]
        refine take_ (i := 0) (v := ?_) 34 rfl rfl (by kernel_rfl) (by kernel_rfl) (by kernel_rfl) (fun _ _ _ h => h) (Or.inl ⟨by rfl, ?_⟩) (by assumption) ?_
        rotate_left
        · (intro wS hSw; (try dsimp only at hSw); go_simp; try with_reducible rfl)
        simp only [Act.put, List.setIfInBounds_toArray]
        refine take_ (i := 1) (v := ?_) 35 rfl rfl (by kernel_rfl) (by kernel_rfl) (by kernel_rfl) (fun _ _ _ h => h) (Or.inl ⟨by rfl, ?_⟩) (by assumption) ?_
        rotate_left
        · (intro wS hSw; (try dsimp only at hSw); go_simp; try with_reducible rfl)
        simp only [Act.put, List.setIfInBounds_toArray]
        refine take_ (i := 2) (v := ?_) 36 rfl rfl (by kernel_rfl) (by kernel_rfl) (by kernel_rfl) (fun _ _ _ h => h) (Or.inl ⟨by rfl, ?_⟩) (by assumption) ?_
        rotate_left
        · (intro wS hSw; (try dsimp only at hSw); go_simp; try with_reducible rfl)
        simp only [Act.put, List.setIfInBounds_toArray]
        refine take_ (i := 3) (v := ?_) 37 rfl rfl (by kernel_rfl) (by kernel_rfl) (by kernel_rfl) (fun _ _ _ h => h) (Or.inl ⟨by rfl, ?_⟩) (by assumption) ?_
        rotate_left
        · (intro wS hSw; (try dsimp only at hSw); go_simp; try with_reducible rfl)
        simp only [Act.put, List.setIfInBounds_toArray]
        refine take_ (i := 4) (v := ?_) 38 rfl rfl (by kernel_rfl) (by kernel_rfl) (by kernel_rfl) (fun _ _ _ h => h) (Or.inl ⟨by rfl, ?_⟩) (by assumption) ?_
        rotate_left
        · (intro wS hSw; (try dsimp only at hSw); go_simp; try with_reducible rfl)
        simp only [Act.put, List.setIfInBounds_toArray]
        refine take_ (i := 5) (v := ?_) 39 rfl rfl (by kernel_rfl) (by kernel_rfl) (by kernel_rfl) (fun _ _ _ h => h) (Or.inl ⟨by rfl, ?_⟩) (by assumption) ?_
        rotate_left
        · (intro wS hSw; (try dsimp only at hSw); go_simp; try with_reducible rfl)
        simp only [Act.put, List.setIfInBounds_toArray]
        refine take_ (i := 6) (v := ?_) 40 rfl rfl (by kernel_rfl) (by kernel_rfl) (by kernel_rfl) (fun _ _ _ h => h) (Or.inl ⟨by rfl, ?_⟩) (by assumption) ?_
        rotate_left
        · (intro wS hSw; (try dsimp only at hSw); go_simp; try with_reducible rfl)
        simp only [Act.put, List.setIfInBounds_toArray]
        refine take_ (i := 7) (v := ?_) 41 rfl rfl (by kernel_rfl) (by kernel_rfl) (by kernel_rfl) (fun _ _ _ h => h) (Or.inl ⟨by rfl, ?_⟩) (by assumption) ?_
        rotate_left
        · (intro wS hSw; (try dsimp only at hSw); go_simp; try with_reducible rfl)
        simp only [Act.put, List.setIfInBounds_toArray]
        refine take_ (i := 8) (v := ?_) 42 rfl rfl (by kernel_rfl) (by kernel_rfl) (by kernel_rfl) (fun _ _ _ h => h) (Or.inl ⟨by rfl, ?_⟩) (by assumption) ?_
        rotate_left
        · (intro wS hSw; (try dsimp only at hSw); go_simp; try with_reducible rfl)
        simp only [Act.put, List.setIfInBounds_toArray]
        refine take_ (i := 9) (v := ?_) 43 rfl rfl (by kernel_rfl) (by kernel_rfl) (by kernel_rfl) (fun _ _ _ h => h) (Or.inl ⟨by rfl, ?_⟩) (by assumption) ?_
        rotate_left
        · (intro wS hSw; (try dsimp only at hSw); go_simp; try with_reducible rfl)
        simp only [Act.put, List.setIfInBounds_toArray]
        refine take_ (i := 10) (v := ?_) 44 rfl rfl (by kernel_rfl) (by kernel_rfl) (by kernel_rfl) (fun _ _ _ h => h) (Or.inl ⟨by rfl, ?_⟩) (by assumption) ?_
        rotate_left
        · (intro wS hSw; (try dsimp only at hSw); go_simp; try with_reducible rfl)
        simp only [Act.put, List.setIfInBounds_toArray]
        refine one_ (i := 11) _ (by kernel_rfl) rfl (fun K hK => ?_)
        go_simp
        refine PT.out.mono ?_
        rintro x wn ⟨⟨e, rfl⟩, hL, hK⟩
        dsimp only
        have BN : Hid (Below w.heap.size w wn) := GB.out.trans (hK.below GB.out.size)
        have LN2 := Lib.hid hL
        have sn : wn.cell? ⟨g, off + i * 2, none⟩ = some (.string (strB kx)) ∧ wn.cell? ⟨g, off + i * 2 + 1, none⟩ = some (.string (strB vx)) := ⟨((hK.below GB.out.size).cell (p := ⟨g, off + i * 2, none⟩) HG.out).trans sx.1, ((hK.below GB.out.size).cell (p := ⟨g, off + i * 2 + 1, none⟩) HG.out).trans sx.2⟩
        clear hL hK PT
        refine hK.out _ _ sn (fun hHeld => ?_)
        clear hK K
        refine wpAnyH_done (by kernel_rfl) ?_ _
        refine NoPanic.normal ?_
        clear sx sn x0 x1
        go_wp2_with fail
        go_roundw
        case rel => exact ⟨i + 1, _, by omega, by go_num, LN2.out, LE.out kx vx, BN.out⟩
        case measure => simp [intOf]; omega
      · obtain rfl : i = m := by omega
        have ESL : Hid (es.length ≤ 200) := Nat.le_trans G.out.2.1 LN.out
        have FE : (fromE es []).take (1073741824 : Int).toNat = es := by
          rw [fromE_none, List.take_of_length_le]
          have := ESL.out
          show es.length ≤ 1073741824
          omega
        have SC := lone_scan w.heap.size wr t p 4096 es G.out.1 (by have := ESL.out; omega) [] (by simp) 1073741824 (by omega) (by omega)
        unfold ScanA at SC
        rw [FE, show strB [] = (⟨#[]⟩ : ByteArray) from rfl] at SC
        have SC := Lib.hid SC
        have RO := Lib.hid G.out.1.rises
        clear hlt FE lm
        go_wp2_with fail
        refine SC.out.mono ?_
        rintro e ws ⟨vw, rfl, hO, hbs⟩
        obtain ⟨Aw, cw, rfl, _, _⟩ := hO.any
        have OW : Hid (OwnP ws w.heap.size (.slice Aw es.length cw) es) := OwnP.base_ hO G.out.2.2.size
        have LS := Lib.hid (G.out.1.under hbs)
        have BS : Hid (Below w.heap.size w ws) := G.out.2.2.trans (hbs.mono G.out.2.2.size)
        obtain ⟨ms, hms⟩ : ∃ x, x = es.length := ⟨_, rfl⟩
        rw [← hms] at OW ESL ⊢
        have HMS := Lib.hid hms
        clear hO hbs SC G hms
        go_wp2_with fail
        cases back with
        | false =>
          go_loopw [10] (fun v10 wr => ∃ i : Nat, i ≤ ms ∧ v10 = .int .i64 i ∧ Hid (Lone w.heap.size wr t p 4096 (es.drop i) ∧ Below w.heap.size w wr ∧ OwnP wr w.heap.size (.slice Aw ms cw) es)) (fun v10 _ => ms - (intOf v10).toNat)
          case atStart => exact ⟨0, by omega, rfl, by rw [List.drop_zero]; exact LS.out, BS.out, OW.out⟩
          case round =>
            clear LS BS OW
            obtain ⟨i, hi, rfl, G⟩ := hrel
            by_cases hlt : i < ms
            · have hms := HMS.out
              have hj : i < es.length := by omega
              have hi' : i < es.length := by omega
              obtain ⟨q1, q2, q3⟩ := drop_del RO.out.1 hj
              have _u := hi'
              have OKX := RO.out.2 es[i] (List.getElem_mem hj)
              have gk : goodK es[i].1 = true := decide_eq_true ⟨OKX.k1, OKX.k2⟩
              have rl : (es.drop i).length ≤ 200 := by
                have := ESL.out
                first
                  | (rw [List.length_drop]; omega)
                  | (rw [List.length_take]; omega)
              have rl1 : (es.drop (i + 1)).length ≤ 200 := by
                have := ESL.out
                first
                  | (rw [List.length_drop]; omega)
                  | (rw [List.length_take]; omega)
              have D1 := lone_del w.heap.size wr t p 4096 (es.drop i) G.out.1 (by omega) (by omega) es[i].1 OKX.kb gk
              rw [q1, q2] at D1
              have D1 := Lib.hid D1
              have D2 : Hid (∀ W, Lone w.heap.size W t p 4096 (es.drop (i + 1)) → Calls Tryd.prog 15 #[.pointer (some ⟨t, 0, none⟩), .string (strB es[i].1)] W fun x w' => x = .returned (.tuple #[.bool false, .int .i64 0]) ∧ Lone w.heap.size w' t p 4096 (delE (es.drop (i + 1)) es[i].1) ∧ KpS TS w.heap.size W w') := fun W hW => by
                have := lone_del w.heap.size W t p 4096 (es.drop (i + 1)) hW (by omega) (by omega) es[i].1 OKX.kb gk
                rw [q3] at this
                exact this
              have DS : Hid (delE (es.drop (i + 1)) es[i].1 = es.drop (i + 1)) := del_same (RO.out.1.sublist (List.drop_sublist _ _)) (fun e he hk => by
                have := of_decide_eq_false q3
                exact this ⟨e, he, hk⟩)
              obtain ⟨gw, ow, rfl, z0, zz⟩ := G.out.2.2.at_.2.at_ hi'
              obtain ⟨gw2, ow2, ew2, y0, yy⟩ := G.out.2.2.at_.2.at_ hj
              injection ew2 with ew2
              injection ew2 with ew3 ew4
              subst ew3 ew4
              obtain ⟨kx, hkx⟩ : ∃ x, x = es[i].1 := ⟨_, rfl⟩
              rw [← hkx] at D1 D2 DS y0 z0
              have lw := (G.out.2.2.lt gw rfl).2
              have im : (i : Int) < (ms : Int) := by omega
              have lim : (ms : Int) ≤ 200 := by have := ESL.out; omega
              have OWR := Lib.hid G.out.2.2
              have BWR := Lib.hid G.out.2.1
              have _v := im
              clear zz yy q1 q2 q3 hj hi' OKX gk rl rl1 hkx G hms
              go_upto_region 18 with fail
              go_wp2_with fail
              refine D1.out.mono ?_
              rintro e w5 ⟨rfl, hL5, hK5⟩
              have E2 := Lib.hid (D2.out w5 hL5)
              have B5 : Hid (Below w.heap.size w w5) := BWR.out.trans (hK5.below BWR.out.size)
              have O5 : Hid (OwnP w5 w.heap.size (.slice (some ⟨gw, ow, none⟩) ms cw) es) := hK5.row OWR.out (by decide)
              clear hL5 hK5 D1 D2 z0 y0 lw
              go_wp2_with fail
              refine E2.out.mono ?_
              rintro e w6 ⟨rfl, hL6, hK6⟩
              rw [DS.out] at hL6
              have L6 := Lib.hid hL6
              have B6 : Hid (Below w.heap.size w w6) := B5.out.trans (hK6.below B5.out.size)
              have O6 : Hid (OwnP w6 w.heap.size (.slice (some ⟨gw, ow, none⟩) ms cw) es) := hK6.row O5.out (by decide)
              clear hL6 hK6 E2
              go_wp2_with fail
              go_roundw
              case rel => exact ⟨i + 1, by omega, by go_num, L6.out, B6.out, O6.out⟩
              case measure => simp [intOf]; omega
            · obtain rfl : i = ms := by omega
              have EN := G.out.1
              rw [List.drop_eq_nil_of_le (by rw [← HMS.out]; omega)] at EN
              obtain ⟨U1, _⟩ := lone_none EN
              have U1 := Lib.hid U1
              have BWR := Lib.hid G.out.2.1
              clear EN G
              go_wp2_with fail
              refine U1.out.mono ?_
              rintro e w9 ⟨rfl, hL9, hb9⟩
              have R1 := Lib.hid (lone_none hL9).2
              have B9 : Hid (Below w.heap.size w w9) := BWR.out.trans (hb9.mono BWR.out.size)
              clear hL9 hb9 U1
              go_wp2_with fail
              refine R1.out.mono ?_
              rintro e w10 ⟨rfl, rfl⟩
              go_wp2_with fail
              go_ret
              exact ⟨rfl, B9.out⟩
        | true =>
          go_loopw [10] (fun v10 wr => ∃ i : Nat, i ≤ ms ∧ v10 = .int .i64 i ∧ Hid (Lone w.heap.size wr t p 4096 (es.take (ms - i)) ∧ Below w.heap.size w wr ∧ OwnP wr w.heap.size (.slice Aw ms cw) es)) (fun v10 _ => ms - (intOf v10).toNat)
          case atStart => exact ⟨0, by omega, rfl, by rw [Nat.sub_zero, HMS.out, List.take_length]; exact LS.out, BS.out, OW.out⟩
          case round =>
            clear LS BS OW
            obtain ⟨i, hi, rfl, G⟩ := hrel
            by_cases hlt : i < ms
            · have hms := HMS.out
              obtain ⟨J, hJ⟩ : ∃ J, J = ms - 1 - i := ⟨_, rfl⟩
              have e1 : ms - i = J + 1 := by omega
              have e2 : ms - (i + 1) = J := by omega
              have hj : J < es.length := by omega
              have hi' : i < es.length := by omega
              obtain ⟨q1, q2, q3⟩ := take_del RO.out.1 hj
              replace q1 : hasK (es.take (ms - i)) es[J].1 = true := by rw [e1]; exact q1
              replace q2 : delE (es.take (ms - i)) es[J].1 = es.take (ms - (i + 1)) := by rw [e1, e2]; exact q2
              replace q3 : hasK (es.take (ms - (i + 1))) es[J].1 = false := by rw [e2]; exact q3
              have OKX := RO.out.2 es[J] (List.getElem_mem hj)
              have gk : goodK es[J].1 = true := decide_eq_true ⟨OKX.k1, OKX.k2⟩
              have rl : (es.take (ms - i)).length ≤ 200 := by
                have := ESL.out
                first
                  | (rw [List.length_drop]; omega)
                  | (rw [List.length_take]; omega)
              have rl1 : (es.take (ms - (i + 1))).length ≤ 200 := by
                have := ESL.out
                first
                  | (rw [List.length_drop]; omega)
                  | (rw [List.length_take]; omega)
              have D1 := lone_del w.heap.size wr t p 4096 (es.take (ms - i)) G.out.1 (by omega) (by omega) es[J].1 OKX.kb gk
              rw [q1, q2] at D1
              have D1 := Lib.hid D1
              have D2 : Hid (∀ W, Lone w.heap.size W t p 4096 (es.take (ms - (i + 1))) → Calls Tryd.prog 15 #[.pointer (some ⟨t, 0, none⟩), .string (strB es[J].1)] W fun x w' => x = .returned (.tuple #[.bool false, .int .i64 0]) ∧ Lone w.heap.size w' t p 4096 (delE (es.take (ms - (i + 1))) es[J].1) ∧ KpS TS w.heap.size W w') := fun W hW => by
                have := lone_del w.heap.size W t p 4096 (es.take (ms - (i + 1))) hW (by omega) (by omega) es[J].1 OKX.kb gk
                rw [q3] at this
                exact this
              have DS : Hid (delE (es.take (ms - (i + 1))) es[J].1 = es.take (ms - (i + 1))) := del_same (RO.out.1.sublist (List.take_sublist _ _)) (fun e he hk => by
                have := of_decide_eq_false q3
                exact this ⟨e, he, hk⟩)
              obtain ⟨gw, ow, rfl, z0, zz⟩ := G.out.2.2.at_.2.at_ hi'
              obtain ⟨gw2, ow2, ew2, y0, yy⟩ := G.out.2.2.at_.2.at_ hj
              injection ew2 with ew2
              injection ew2 with ew3 ew4
              subst ew3 ew4
              obtain ⟨kx, hkx⟩ : ∃ x, x = es[J].1 := ⟨_, rfl⟩
              rw [← hkx] at D1 D2 DS y0
              obtain ⟨kz, hkz⟩ : ∃ x, x = es[i].1 := ⟨_, rfl⟩
              rw [← hkz] at z0
              clear hkz
              have lw := (G.out.2.2.lt gw rfl).2
              have im : (i : Int) < (ms : Int) := by omega
              have lim : (ms : Int) ≤ 200 := by have := ESL.out; omega
              have OWR := Lib.hid G.out.2.2
              have BWR := Lib.hid G.out.2.1
              have bi : ((J : Nat) : Int) = (ms : Int) - 1 - (i : Int) := by omega
              have bl : (ms : Int) - 1 - (i : Int) < (ms : Int) := by omega
              have b0 : (0 : Int) ≤ (ms : Int) - 1 - (i : Int) := by omega
              have y1 : wr.cell? ⟨gw, ow + (ms - 1 - i) * 2, none⟩ = some (.string (strB kx)) := by rw [← hJ]; exact y0
              clear hJ
              clear zz yy q1 q2 q3 e1 e2 OKX gk rl rl1 hkx G hms
              go_upto_region 18 with fail
              go_wp2_with fail
              refine D1.out.mono ?_
              rintro e w5 ⟨rfl, hL5, hK5⟩
              have E2 := Lib.hid (D2.out w5 hL5)
              have B5 : Hid (Below w.heap.size w w5) := BWR.out.trans (hK5.below BWR.out.size)
              have O5 : Hid (OwnP w5 w.heap.size (.slice (some ⟨gw, ow, none⟩) ms cw) es) := hK5.row OWR.out (by decide)
              clear hL5 hK5 D1 D2 z0 y0 y1 lw
              go_wp2_with fail
              refine E2.out.mono ?_
              rintro e w6 ⟨rfl, hL6, hK6⟩
              rw [DS.out] at hL6
              have L6 := Lib.hid hL6
              have B6 : Hid (Below w.heap.size w w6) := B5.out.trans (hK6.below B5.out.size)
              have O6 : Hid (OwnP w6 w.heap.size (.slice (some ⟨gw, ow, none⟩) ms cw) es) := hK6.row O5.out (by decide)
              clear hL6 hK6 E2
              go_wp2_with fail
              go_roundw
              case rel => exact ⟨i + 1, by omega, by go_num, L6.out, B6.out, O6.out⟩
              case measure => simp [intOf]; omega
            · obtain rfl : i = ms := by omega
              have EN := G.out.1
              rw [Nat.sub_self, List.take_zero] at EN
              obtain ⟨U1, _⟩ := lone_none EN
              have U1 := Lib.hid U1
              have BWR := Lib.hid G.out.2.1
              clear EN G
              go_wp2_with fail
              refine U1.out.mono ?_
              rintro e w9 ⟨rfl, hL9, hb9⟩
              have R1 := Lib.hid (lone_none hL9).2
              have B9 : Hid (Below w.heap.size w w9) := BWR.out.trans (hb9.mono BWR.out.size)
              clear hL9 hb9 U1
              go_wp2_with fail
              refine R1.out.mono ?_
              rintro e w10 ⟨rfl, rfl⟩
              go_wp2_with fail
              go_ret
              exact ⟨rfl, B9.out⟩
  · have i1 : (200 : Int) < (m : Int) := by omega
    have lm2 : (m : Int) ≤ 9223372036854775807 := by omega
    clear hn hm hlen
    go_enter Tryd.func4, Tryd.ntmps4
    go_wp2_with fail
    refine FX.out.mono ?_
    rintro e w1 ⟨rfl, hb1⟩
    have B1 := Lib.hid hb1
    have F2 := Lib.hid (fixed_any w1)
    clear hb1 FX
    go_wp2_with fail
    refine F2.out.mono ?_
    rintro e w2 ⟨rfl, hb2⟩
    have B2 : Hid (Below w.heap.size w w2) := B1.out.trans (hb2.mono B1.out.size)
    clear hb2 F2
    go_wp2_with fail
    go_ret
    exact ⟨rfl, B2.out⟩
set_option maxRecDepth 100000 in
theorem opens {H : Type} {enc : TypeId × Value → H} {W : World} {base : Nat} {args : Array Value} {ds : List (DataW H)} {p : List MemPlace}
    (hval : ∀ (j : Nat) t v, Tryd.f4.params[j]? = some t → args[j]? = some v → Value.okWide Tryd.prog W .any base t v)
    (hA : DataW.TrodAll enc Tryd.prog W 0 (fun _ => true) true Tryd.f4.params.toList args.toList ds p) (hlt : ∀ x ∈ p, x.block < W.heap.size) (hk : Rows.uptoBulkAll ds ≤ 1048576) (hE : Env W) :
    Calls Tryd.prog 4 args W fun e W' => e = .returned (.bool true) ∧ Below W.heap.size W W' := by
  rw [Tryd.params4] at hA hval
  obtain ⟨v0, vs0, d0, ds0, p0, q0, hargs, rfl, rfl, h0, r0⟩ := trodAll_cons hA
  obtain ⟨v1, vs1, d1, ds1, p1, q1, rfl, rfl, rfl, h1, r1⟩ := trodAll_cons r0
  obtain ⟨rfl, rfl, rfl⟩ := trodAll_nil r1
  obtain rfl : args = #[v0, v1] := Array.toList_inj.1 hargs
  have _hE := hE
  obtain ⟨A, c, l, rfl, hP, h8, hn⟩ := open_pairs (hval 0 40 v0 rfl rfl) h0
  obtain ⟨b, rfl, rfl, rfl⟩ := open_bool Tryd.underlying4 (hval 1 4 v1 rfl rfl) h1
  exact walk W A c l hP h8 hn b
theorem witness_row (os : Os) {H : Type} (enc : TypeId × Value → H) :
    (Rows.OpenSpec.upto Rows.btreeEmptySpec).preRow enc Tryd.prog Tryd.f4 Rows.btreeEmptyUptoRow.domain false Rows.btreeEmptyUptoRow.laid ((startW os).forCall (fun _ _ => 0) ⟨#[], #[.slice none 0 0, .bool false], []⟩).memory #[.slice none 0 0, .bool false] := by
  have hw : (DataW.whole enc Tryd.prog ((startW os).forCall (fun _ _ => 0) ⟨#[], #[.slice none 0 0, .bool false], []⟩).memory Tryd.f4.params.toList Rows.btreeEmptySpec.vars false (#[.slice none 0 0, .bool false] : Array Value).toList 8).map (fun x => (x.1, x.2.1)) =
      some ([.nil, .lit (.bool false)], []) := by kernel_rfl
  obtain ⟨⟨x1, x2, x3⟩, hx, hx1⟩ := Option.map_eq_some_iff.1 hw
  simp only [Prod.mk.injEq] at hx1
  obtain ⟨rfl, rfl⟩ := hx1
  exact OpenSpec.preRow_of_cond 8 hx (by kernel_rfl) (fun k hk => by cases hk; kernel_rfl) (by kernel_rfl) (door_met os _)
set_option maxRecDepth 100000 in
theorem lifted (os : Os) (started : os.Started) (H : Type) (enc : TypeId × Value → H) (F : Stop.Interp) :
    ReturnsInHanded {} Tryd.checked os 4 .any ((Rows.OpenSpec.upto Rows.btreeEmptySpec).preRow enc Tryd.prog Tryd.f4 Rows.btreeEmptyUptoRow.domain false Rows.btreeEmptyUptoRow.laid) (((Rows.OpenSpec.upto Rows.btreeEmptySpec).at F).post enc Tryd.prog Tryd.f4 false true false false) := by
  refine returnsInHanded_of_row (C := Tryd.checked) (s := Rows.OpenSpec.upto Rows.btreeEmptySpec) own started (by kernel_rfl) Tryd.func4
    (witness_row_atRef (enc := enc) (C := Tryd.checked) false (startW os) #[.slice none 0 0, .bool false] rfl (by kernel_rfl) (by kernel_rfl) (by kernel_rfl) (witness_row os enc)) ?_
  intro W base args ds gs before hval hW _ hcond _ hL _ _
  have hk := hcond _ rfl
  refine law_calls (s := Rows.btreeEmptySpec) laidOut Tryd.underlying4 rfl (by rw [Tryd.params4]; exact of_decide_eq_true (by kernel_rfl)) rfl (fun ds h => by match ds, h with | [_, _], _ => rfl) hW ?_
  obtain ⟨rfl, p, hA, hlt⟩ := law_args rfl hW
  have hb : Rows.uptoBulkAll (ds ++ []) ≤ 1048576 := of_decide_eq_true hk
  rw [List.append_nil] at hb
  exact opens hval hA hlt hb (env_of hL)

theorem saidUpto : Rows.BtreeEmptyUptoSaid :=
  OpenClaim.holds_of_cond 4 Tryd.f4 rfl rfl rfl rfl rfl rfl rfl ⟨rfl, rfl, rfl, rfl, rfl⟩ rfl rfl rfl rfl rfl (by kernel_rfl) Tryd.func4 (by kernel_rfl)
    (of_decide_eq_true (by kernel_rfl)) (by unfold Func.isWrapper; first | (rw [if_pos (by decide +kernel)]; kernel_rfl) | (rw [if_neg (by decide +kernel)]; exact ⟨rfl, rfl⟩))
    (fun os started H enc _ F => by rw [OpenClaim.pre_eq_preRow]; exact lifted os started H enc F)
theorem plain (f : FuncId) (fn : Func) (hf : Tryd.pinned.checked.prog.funcNamed "docket/docketlaw06.BtreeEmpty" = some f) (hfn : Tryd.pinned.checked.prog.funcs[f]? = some fn) :
    true = Tryd.pinned.checked.prog.looks [] ∧ ∀ (j : Nat) t, fn.params[j]? = some t → Tryd.pinned.checked.prog.wantsStandIn t = false := by
  obtain rfl : f = 4 := Option.some.inj ((show Tryd.prog.funcNamed "docket/docketlaw06.BtreeEmpty" = some 4 by kernel_rfl).symm.trans hf) |>.symm
  obtain rfl : fn = Tryd.f4 := (Option.some.inj (Tryd.func4.symm.trans hfn)).symm
  exact ⟨by kernel_rfl, fun j t ht => (of_decide_eq_true (p := ∀ t ∈ Tryd.f4.params.toList, Tryd.prog.wantsStandIn t = false) (by kernel_rfl)) t (Array.mem_toList_iff.2 (Array.mem_of_getElem? ht))⟩
theorem proved : Rows.BtreeEmptyUptoCardSaid :=
  Claim7.holds_tied_plain_at .later [] _ _ _ _ saidUpto (fun _ h => by cases h) (by kernel_rfl) (fun _ h => by cases h) btreeEmptyUpto_row_tie rfl ⟨rfl, rfl⟩ (by kernel_rfl) rfl plain (by kernel_rfl)

end Go.Proofs.YtldmllmkckklhaaDoor.btreeEmpty
